/-
  Texts, together: ValP, ValQ.
  Conditions: none but sizes.
-/
import Derived.Test.YtpmafabphlejeaaGreatValIZ
import Derived.Test.YtpmafabphlejeaaGreatValLZ
import Derived.Test.YtpmafabphlejeaaGreatV5AZ
/-
  Without the program: a value's bytes are read as that value, and what is read is put as the bytes that were read; values that may be have the same bytes just if they are the same.
  Conditions: none.
-/
namespace Go.Proofs.YtpmafabphlejeaaGreat
open Go.RowKit
set_option linter.unusedVariables false
set_option linter.unusedSimpArgs false

/-! ### numbers and texts, there and back -/
theorem numOf_be : ∀ (k n : Nat), numOf (be k n) = n % 256 ^ k
  | 0, n => by simp [be, numOf, Nat.mod_one]
  | k + 1, n => by
    rw [be, numOf_snoc, numOf_be k, Nat.pow_succ, Nat.mul_comm (256 ^ k) 256, Nat.mod_mul]
    simp
    omega
theorem takeS_front (k : Nat) (a r : List UInt8) (h : a.length = k) : takeS (k : Int) (some (a ++ r)) = (a, some r) := by
  rw [takeS_ok k (a ++ r) (by simp; omega)]
  subst h
  simp
theorem numS_be (k n : Nat) (r : List UInt8) (h : num (k : Int) = true) (hn : n < 256 ^ k) : numS (k : Int) (some (be k n ++ r)) = (n, some r) := by
  unfold numS
  rw [if_pos h, takeS_front k (be k n) r (be_length k n), numOf_be, Nat.mod_eq_of_lt hn]
theorem textS_be (k most : Nat) (l r : List UInt8) (h : txt (k : Int) = true) (hl : l.length < 256 ^ k) (hm : l.length ≤ most) : textS (k : Int) (most : Int) (some (be k l.length ++ (l ++ r))) = (l, some r) := by
  unfold textS
  rw [if_pos h, numS_be k _ _ (txt_num h) hl]
  unfold textT
  rw [if_neg (by simp; omega)]
  exact takeS_front _ l r rfl
theorem be_numOf : ∀ (k : Nat) (l : List UInt8), l.length = k → be k (numOf l) = l
  | 0, l, h => by
    obtain rfl := List.length_eq_zero_iff.1 h
    rfl
  | k + 1, l, h => by
    have hne : l ≠ [] := by intro e; simp [e] at h
    rw [← List.dropLast_concat_getLast hne, numOf_snoc, be]
    have hb := (l.getLast hne).toNat_lt
    rw [show (numOf l.dropLast * 256 + (l.getLast hne).toNat) / 256 = numOf l.dropLast by omega, be_numOf k l.dropLast (by simp [h])]
    congr 2
    rw [show UInt8.ofNat (numOf l.dropLast * 256 + (l.getLast hne).toNat) = UInt8.ofNat (l.getLast hne).toNat by
      apply UInt8.toNat_inj.1
      simp
      ]
    simp
theorem takeS_some {n : Int} {s : St} {r : List UInt8} (h : (takeS n s).2 = some r) : ∃ l : List UInt8, s = some l ∧ l = (takeS n s).1 ++ r ∧ ((takeS n s).1.length : Int) = n := by
  cases s with
  | none => simp [takeS] at h
  | some l =>
    simp only [takeS] at h ⊢
    split at h
    · rename_i hc
      rw [if_pos hc]
      simp only [Option.some.injEq] at h
      subst h
      refine ⟨l, rfl, by simp, ?_⟩
      simp only [List.length_take]
      omega
    · cases h
theorem numS_some {k : Nat} {s : St} {r : List UInt8} (hk : num (k : Int) = true) (h : (numS (k : Int) s).2 = some r) : s = some (be k (numS (k : Int) s).1 ++ r) := by
  unfold numS at h ⊢
  rw [if_pos hk] at h ⊢
  obtain ⟨l, rfl, h1, h2⟩ := takeS_some h
  have := be_numOf k (takeS (k : Int) (some l)).1 (by omega)
  rw [this]
  exact congrArg some h1
theorem textS_some {k most : Nat} {s : St} {r : List UInt8} (hk : txt (k : Int) = true) (h : (textS (k : Int) (most : Int) s).2 = some r) :
    s = some (be k (textS (k : Int) (most : Int) s).1.length ++ ((textS (k : Int) (most : Int) s).1 ++ r)) ∧ (textS (k : Int) (most : Int) s).1.length ≤ most := by
  unfold textS at h ⊢
  rw [if_pos hk] at h ⊢
  unfold textT at h ⊢
  split at h
  · rw [takeS_m1] at h; cases h
  · rename_i hc
    rw [if_neg hc]
    obtain ⟨l1, h0, h1, h2⟩ := takeS_some h
    have h3 := numS_some (txt_num hk) h0
    have hlen : (takeS ((numS (k : Int) s).1 : Nat) (numS (k : Int) s).2).1.length = (numS (k : Int) s).1 := by omega
    refine ⟨?_, by omega⟩
    rw [hlen]
    rw [h3]
    congr 1
    rw [← h3]
    congr 1

/-! ### from a value to its bytes and back -/
theorem known_lt {k : Nat} (h : knownD k = true) : k < 256 := by
  unfold knownD at h
  rw [decide_eq_true_iff] at h
  omega
theorem num1 : num ((1 : Nat) : Int) = true := by decide
theorem num4 : num ((4 : Nat) : Int) = true := by decide
theorem num8 : num ((8 : Nat) : Int) = true := by decide
theorem txt1 : txt ((1 : Nat) : Int) = true := by decide
theorem txt2 : txt ((2 : Nat) : Int) = true := by decide
theorem txt4 : txt ((4 : Nat) : Int) = true := by decide

theorem empty_size {s : ByteArray} (h : s.size ≤ 0) : s = ⟨#[]⟩ := by
  cases s with | mk d =>
    have : d = #[] := Array.eq_empty_of_size_eq_zero (Nat.le_zero.1 h)
    rw [this]

/-- Rows of keys that fit. -/
def KeysFit (keys : Bool) (ks : List ByteArray) (n : Nat) : Prop := if keys = true then ks.length = n ∧ ∀ x ∈ ks, x.size ≤ 255 else ks = []

theorem headKeys {t : Tree} (h : headOK t) : KeysFit (layD t.k).keys t.ks t.l.length := by
  have h6 := h.2.2.2.2.2
  unfold rightKeys at h6
  unfold KeysFit
  split
  · rename_i hk
    rw [if_pos hk] at h6
    exact ⟨h6.1, fun x hx => (keys_le h x hx).2⟩
  · rename_i hk
    rw [if_neg hk] at h6
    exact h6

theorem listP_bytes (v : Nat → St → Option (Tree × Nat × St)) (k : Nat) (keys : Bool) (m c : Nat) (it r : List UInt8) (hc : c < 4294967296) (hl : (be 4 c ++ it).length < 4294967296) (ks : List ByteArray) (l : List Tree) (m' : Nat)
    (h : itemsP v keys c m (some (it ++ r)) = some (ks, l, m', some r)) :
    listP v k keys m (some ((be 4 (be 4 c ++ it).length ++ (be 4 c ++ it)) ++ r)) = finP (.node k 0 ⟨#[]⟩ ks l) m' (some r) := by
  have e1 : numS 4 (some ((be 4 (be 4 c ++ it).length ++ (be 4 c ++ it)) ++ r)) = ((be 4 c ++ it).length, some (be 4 c ++ (it ++ r))) := by
    rw [List.append_assoc, List.append_assoc (be 4 c)]
    exact numS_be 4 _ _ num4 hl
  have e2 : numS 4 (some (be 4 c ++ (it ++ r))) = (c, some (it ++ r)) := numS_be 4 c _ num4 hc
  unfold listP
  rw [e1]
  simp only []
  rw [e2]
  simp only []
  rw [h]
  simp only [lenS, List.length_append]
  rw [if_pos (by omega)]

mutual
theorem valP_bytes : ∀ (t : Tree), validT t = true → cntT t ≤ 200 → ∀ (f m : Nat) (r : List UInt8), cntT t ≤ m → m ≤ f → valP f m (some (bytesT t ++ r)) = some (t, m - cntT t, some r)
  | .node k n s ks l, hv, hc, f, m, r, h1, h2 => by
    have hh := validT_head hv
    have hl : validL l = true := by rw [validT_eq, Bool.and_eq_true] at hv; exact hv.2
    have hkf := headKeys hh
    obtain ⟨g1, g2, g3, g4, _, _⟩ := hh
    simp only [Tree.k, Tree.n, Tree.s, Tree.l, Tree.ks] at g1 g2 g3 g4 hkf
    have hk := known_lt g1
    have hcn : cntT (.node k n s ks l) = 1 + cntL l := rfl
    obtain ⟨f, rfl⟩ : ∃ f', f = f' + 1 := ⟨f - 1, by omega⟩
    obtain ⟨m, rfl⟩ : ∃ m', m = m' + 1 := ⟨m - 1, by omega⟩
    have ek : numS 1 (some (be 1 k ++ (bodyB (layD k) n s (be 4 l.length ++ itemsB ks 0 l) ++ r))) = (k, some (bodyB (layD k) n s (be 4 l.length ++ itemsB ks 0 l) ++ r)) := numS_be 1 k _ num1 (by omega)
    have eb : bytesT (.node k n s ks l) ++ r = be 1 k ++ (bodyB (layD k) n s (be 4 l.length ++ itemsB ks 0 l) ++ r) := by
      show (be 1 k ++ bodyB (layD k) n s (be 4 l.length ++ itemsB ks 0 l)) ++ r = _
      rw [List.append_assoc]
    rw [eb, valP, ek]
    simp only []
    have hm : m + 1 - cntT (.node k n s ks l) = m - cntL l := by omega
    rw [hm]
    have hleaf : (layD k).list = false → m - cntL l = m ∧ l = [] := fun hx => by
      have := g4 hx
      subst this
      exact ⟨rfl, rfl⟩
    have hilen : (layD k).list = true → (be 4 l.length ++ itemsB ks 0 l).length ≤ 880000 := fun _ => by
      have h1 := items_len ks (fun x hx => by
        unfold KeysFit at hkf
        split at hkf
        · exact hkf.2 x hx
        · rw [hkf] at hx; simp at hx) l 0 hl
      rw [List.length_append, be_length]
      omega
    rcases lay_cases k with e | e | e | e | e | e | e | e <;> rw [e] at g2 g3 hleaf hkf hilen ⊢
    · obtain ⟨e1, rfl⟩ := hleaf rfl
      have hs := empty_size g3
      simp only [KeysFit] at hkf
      rw [if_neg (by decide)] at hkf
      subst hkf
      subst hs
      rw [if_pos (by decide), e1]
      have : bodyB ⟨1, 1, 0, 0, false, false⟩ n ⟨#[]⟩ (be 4 0 ++ []) ++ r = be 1 n ++ r := rfl
      show finP (.node k (numS ((1 : Nat) : Int) (some (be 1 n ++ r))).1 ⟨#[]⟩ [] []) m (numS ((1 : Nat) : Int) (some (be 1 n ++ r))).2 = _
      rw [numS_be 1 n r num1 (by simp only at g2; omega)]
      rfl
    · obtain ⟨e1, rfl⟩ := hleaf rfl
      have hs := empty_size g3
      simp only [KeysFit] at hkf
      rw [if_neg (by decide)] at hkf
      subst hkf
      subst hs
      rw [if_pos (by decide), e1]
      show finP (.node k (numS ((1 : Nat) : Int) (some (be 1 n ++ r))).1 ⟨#[]⟩ [] []) m (numS ((1 : Nat) : Int) (some (be 1 n ++ r))).2 = _
      rw [numS_be 1 n r num1 (by simp only at g2; omega)]
      rfl
    · obtain ⟨e1, rfl⟩ := hleaf rfl
      have hs := empty_size g3
      simp only [KeysFit] at hkf
      rw [if_neg (by decide)] at hkf
      subst hkf
      subst hs
      rw [if_pos (by decide), e1]
      show finP (.node k (numS ((8 : Nat) : Int) (some (be 8 n ++ r))).1 ⟨#[]⟩ [] []) m (numS ((8 : Nat) : Int) (some (be 8 n ++ r))).2 = _
      rw [numS_be 8 n r num8 (by simp only at g2; omega)]
      rfl
    · obtain ⟨e1, rfl⟩ := hleaf rfl
      simp only [KeysFit] at hkf
      rw [if_neg (by decide)] at hkf
      subst hkf
      have hn : n = 0 := Nat.le_zero.1 g2
      subst hn
      have g3' : s.size ≤ 4096 := g3
      rw [if_neg (by decide), if_pos (by decide), e1]
      show finP (.node k 0 (str8 (textS ((2 : Nat) : Int) ((4096 : Nat) : Int) (some ((be 2 s.size ++ sb s) ++ r))).1) [] []) m (textS ((2 : Nat) : Int) ((4096 : Nat) : Int) (some ((be 2 s.size ++ sb s) ++ r))).2 = _
      rw [List.append_assoc, ← sb_length s, textS_be 2 4096 (sb s) r txt2 (by rw [sb_length]; omega) (by rw [sb_length]; omega), str8_sb]
      rfl
    · obtain ⟨e1, rfl⟩ := hleaf rfl
      simp only [KeysFit] at hkf
      rw [if_neg (by decide)] at hkf
      subst hkf
      have hn : n = 0 := Nat.le_zero.1 g2
      subst hn
      have g3' : s.size ≤ 4096 := g3
      rw [if_neg (by decide), if_pos (by decide), e1]
      show finP (.node k 0 (str8 (textS ((4 : Nat) : Int) ((4096 : Nat) : Int) (some ((be 4 s.size ++ sb s) ++ r))).1) [] []) m (textS ((4 : Nat) : Int) ((4096 : Nat) : Int) (some ((be 4 s.size ++ sb s) ++ r))).2 = _
      rw [List.append_assoc, ← sb_length s, textS_be 4 4096 (sb s) r txt4 (by rw [sb_length]; omega) (by rw [sb_length]; omega), str8_sb]
      rfl
    · have hn : n = 0 := Nat.le_zero.1 g2
      subst hn
      have hs := empty_size g3
      subst hs
      have hel := hilen rfl
      have hll := cntL_len l
      simp [KeysFit] at hkf
      rw [if_neg (by decide), if_neg (by decide), if_pos rfl]
      have hit := itemsP_bytes false ks (fun x hx => by rw [hkf] at hx; simp at hx) l hl (by omega) 0 f m r (by simpa using hkf) (by omega) (by omega)
      show listP (valP f) k false m (some ((be 4 (be 4 l.length ++ itemsB ks 0 l).length ++ (be 4 l.length ++ itemsB ks 0 l)) ++ r)) = _
      rw [listP_bytes (valP f) k false m l.length (itemsB ks 0 l) r (by omega) (by omega) _ _ _ hit]
      show finP (.node k 0 ⟨#[]⟩ [] l) (m - cntL l) (some r) = _
      subst hkf; rfl
    · have hn : n = 0 := Nat.le_zero.1 g2
      subst hn
      have hs := empty_size g3
      subst hs
      have hel := hilen rfl
      have hll := cntL_len l
      simp [KeysFit] at hkf
      rw [if_neg (by decide), if_neg (by decide), if_pos rfl]
      have hit := itemsP_bytes true ks (fun x hx => hkf.2 x hx) l hl (by omega) 0 f m r (by simpa using hkf.1) (by omega) (by omega)
      show listP (valP f) k true m (some ((be 4 (be 4 l.length ++ itemsB ks 0 l).length ++ (be 4 l.length ++ itemsB ks 0 l)) ++ r)) = _
      rw [listP_bytes (valP f) k true m l.length (itemsB ks 0 l) r (by omega) (by omega) _ _ _ hit]
      show finP (.node k 0 ⟨#[]⟩ (ks.drop 0) l) (m - cntL l) (some r) = _
      rfl
    · obtain ⟨e1, rfl⟩ := hleaf rfl
      simp only [KeysFit] at hkf
      rw [if_neg (by decide)] at hkf
      subst hkf
      have hn : n = 0 := Nat.le_zero.1 g2
      subst hn
      have hs := empty_size g3
      subst hs
      rw [if_neg (by decide), if_neg (by decide), if_neg (by decide), e1]
      rfl
theorem itemsP_bytes (keys : Bool) (ks : List ByteArray) (hks : ∀ x ∈ ks, x.size ≤ 255) : ∀ (l : List Tree), validL l = true → cntL l ≤ 200 → ∀ (i f m : Nat) (r : List UInt8), (if keys = true then ks.length = i + l.length else ks = []) → cntL l ≤ m → m ≤ f →
    itemsP (valP f) keys l.length m (some (itemsB ks i l ++ r)) = some (if keys = true then ks.drop i else [], l, m - cntL l, some r)
  | [], _, _, i, f, m, r, hk, _, _ => by
    have e : (if keys = true then ks.drop i else []) = [] := by
      split
      · rename_i h; rw [if_pos h] at hk; simp at hk; exact List.drop_eq_nil_of_le (by omega)
      · rfl
    rw [e]
    rfl
  | a :: l, hv, hc, i, f, m, r, hk, h1, h2 => by
    have hv' : (validT a && validL l) = true := hv
    rw [Bool.and_eq_true] at hv'
    have hcl : cntL (a :: l) = cntT a + cntL l := rfl
    have eb : itemsB ks i (a :: l) ++ r = keyOf8 ks i ++ (bytesT a ++ (itemsB ks (i + 1) l ++ r)) := by simp [itemsB]
    rw [eb]
    show itemsP (valP f) keys (l.length + 1) m _ = _
    have hrest : (if keys = true then ks.length = (i + 1) + l.length else ks = []) := by
      split <;> rename_i h
      · rw [if_pos h] at hk; simp at hk; omega
      · rw [if_neg h] at hk; exact hk
    have ih := itemsP_bytes keys ks hks l hv'.2 (by omega) (i + 1) f (m - cntT a) r hrest (by omega) (by omega)
    cases keys with
    | true =>
      rw [if_pos rfl] at hk
      have hi : i < ks.length := by simp at hk; omega
      have hz := hks _ (List.getElem_mem hi)
      have et : textS 1 255 (some (keyOf8 ks i ++ (bytesT a ++ (itemsB ks (i + 1) l ++ r)))) = (sb ks[i], some (bytesT a ++ (itemsB ks (i + 1) l ++ r))) := by
        rw [keyOf8_get ks i hi, List.append_assoc, ← sb_length]
        exact textS_be 1 255 (sb ks[i]) _ txt1 (by rw [sb_length]; omega) (by rw [sb_length]; omega)
      unfold itemsP
      rw [et]
      simp only [if_true]
      rw [valP_bytes a hv'.1 (by omega) f m _ (by omega) h2]
      simp only []
      rw [ih]
      simp only [str8_sb]
      rw [List.drop_eq_getElem_cons hi, hcl]
      simp
      omega
    | false =>
      rw [if_neg (by simp)] at hk
      subst hk
      unfold itemsP
      simp only [Bool.false_eq_true, if_false]
      have e0 : keyOf8 [] i = [] := keyOf8_none [] i (by simp)
      rw [e0, List.nil_append, valP_bytes a hv'.1 (by omega) f m _ (by omega) h2]
      simp only []
      rw [ih]
      simp only [Bool.false_eq_true, if_false, List.nil_append, hcl]
      simp
      omega
end

/-! ### from bytes to a value and back -/
/-- What a way of reading one value reads is that value's bytes. -/
def SoundV (v : Nat → St → Option (Tree × Nat × St)) : Prop := ∀ m s t m' s', v m s = some (t, m', s') → ∃ r, s' = some r ∧ s = some (bytesT t ++ r)
theorem itemsP_sound {v : Nat → St → Option (Tree × Nat × St)} (hv : SoundV v) (keys : Bool) : ∀ (c m : Nat) (s : St) (pre ks : List ByteArray) (l : List Tree) (m' : Nat) (r : List UInt8), (keys = false → pre = []) →
    itemsP v keys c m s = some (ks, l, m', some r) → (keys = true → ks.length = c) ∧ (keys = false → ks = []) ∧ l.length = c ∧ s = some (itemsB (pre ++ ks) (if keys = true then pre.length else 0) l ++ r)
  | 0, m, s, pre, ks, l, m', r, hp, h => by
    simp only [itemsP, Option.some.injEq, Prod.mk.injEq] at h
    obtain ⟨rfl, rfl, rfl, rfl⟩ := h
    exact ⟨fun _ => rfl, fun _ => rfl, rfl, rfl⟩
  | c + 1, m, s, pre, ks, l, m', r, hp, h => by
    unfold itemsP at h
    cases h1 : v m (if keys = true then (textS 1 255 s).2 else s) with
    | none => rw [h1] at h; cases h
    | some p =>
      obtain ⟨t, m1, s1⟩ := p
      rw [h1] at h
      obtain ⟨r1, rfl, hs1⟩ := hv _ _ _ _ _ h1
      cases h2 : itemsP v keys c m1 (some r1) with
      | none => simp only [h2] at h; cases h
      | some p =>
        obtain ⟨ks2, l2, m2, s2⟩ := p
        simp only [h2, Option.some.injEq, Prod.mk.injEq] at h
        obtain ⟨rfl, rfl, rfl, rfl⟩ := h
        cases keys with
        | true =>
          rw [if_pos rfl] at hs1
          obtain ⟨h3, h4⟩ := textS_some (k := 1) (most := 255) txt1 hs1
          obtain ⟨b1, b2, b3, b4⟩ := itemsP_sound hv true c m1 (some r1) (pre ++ [str8 (textS 1 255 s).1]) ks2 l2 m2 r (by simp) h2
          rw [if_pos rfl] at b4 ⊢
          refine ⟨fun _ => by simp [b1 rfl], by simp, by simp [b3], h3.trans ?_⟩
          have ek : keyOf8 (pre ++ ([str8 (textS 1 255 s).1] ++ ks2)) pre.length = be 1 (textS 1 255 s).1.length ++ (textS 1 255 s).1 := by
            rw [keyOf8_get _ _ (by simp)]
            rw [List.getElem_append_right (Nat.le_refl _)]
            simp [str8_size, sb_str8]
          have er : r1 = itemsB (pre ++ ([str8 (textS 1 255 s).1] ++ ks2)) (pre.length + 1) l2 ++ r := by
            have := Option.some.inj b4
            rw [List.append_assoc] at this
            simpa using this
          have ei : itemsB (pre ++ ([str8 (textS 1 255 s).1] ++ ks2)) pre.length (t :: l2) = keyOf8 (pre ++ ([str8 (textS 1 255 s).1] ++ ks2)) pre.length ++ bytesT t ++ itemsB (pre ++ ([str8 (textS 1 255 s).1] ++ ks2)) (pre.length + 1) l2 := rfl
          show _ = some (itemsB (pre ++ ([str8 (textS 1 255 s).1] ++ ks2)) pre.length (t :: l2) ++ r)
          rw [ei, ek]
          generalize itemsB (pre ++ ([str8 (textS 1 255 s).1] ++ ks2)) (pre.length + 1) l2 = IB at *
          subst er
          simp
        | false =>
          have hp0 := hp rfl
          subst hp0
          rw [if_neg (by simp)] at hs1
          obtain ⟨b1, b2, b3, b4⟩ := itemsP_sound hv false c m1 (some r1) [] ks2 l2 m2 r (by simp) h2
          have := b2 rfl
          subst this
          rw [if_neg (by simp)] at b4 ⊢
          refine ⟨by simp, fun _ => rfl, by simp [b3], ?_⟩
          rw [hs1]
          have er : r1 = itemsB [] 0 l2 ++ r := by simpa using b4
          have e0 : ∀ (l : List Tree) (i j : Nat), itemsB [] i l = itemsB [] j l := by
            intro l
            induction l with
            | nil => intro i j; rfl
            | cons a q ih =>
              intro i j
              simp only [itemsB]
              rw [keyOf8_none [] i (by simp), keyOf8_none [] j (by simp), ih (i + 1) (j + 1)]
          have ei : itemsB [] 0 (t :: l2) = keyOf8 [] 0 ++ bytesT t ++ itemsB [] 1 l2 := rfl
          show _ = some (itemsB [] 0 (t :: l2) ++ r)
          rw [ei, keyOf8_none [] 0 (by simp), e0 l2 1 0]
          subst er
          simp

theorem finP_sound {t t' : Tree} {m m' : Nat} {s s' : St} (h : finP t m s = some (t', m', s')) : t' = t ∧ ∃ r, s' = some r ∧ s = some r := by
  obtain ⟨h1, _, h2, h3⟩ := finP_some h
  obtain ⟨r, hr⟩ := Option.ne_none_iff_exists'.1 h3
  exact ⟨h1, r, h2.trans hr, hr⟩

theorem valP_sound : ∀ f, SoundV (valP f)
  | 0 => fun m s t m' s' h => by cases h
  | f + 1 => fun m s t m' s' h => by
    cases m with
    | zero => cases h
    | succ m =>
      have hb : ∀ (n : Nat) (str : ByteArray) (ks : List ByteArray) (l : List Tree) (r2 : List UInt8), (numS 1 s).2 = some (bodyB (layD (numS 1 s).1) n str (be 4 l.length ++ itemsB ks 0 l) ++ r2) → s = some (bytesT (.node (numS 1 s).1 n str ks l) ++ r2) := by
        intro n str ks l r2 h2
        have h3 := numS_some (k := 1) num1 h2
        refine h3.trans ?_
        congr 1
      unfold valP at h
      generalize (numS 1 s).2 = s1 at *
      generalize (numS 1 s).1 = k at *
      rcases lay_cases k with e | e | e | e | e | e | e | e <;> rw [e] at h hb
      · rw [if_pos (by decide)] at h
        obtain ⟨rfl, r, rfl, h2⟩ := finP_sound h
        exact ⟨r, rfl, hb _ _ _ _ r ((numS_some (k := 1) num1 h2).trans rfl)⟩
      · rw [if_pos (by decide)] at h
        obtain ⟨rfl, r, rfl, h2⟩ := finP_sound h
        exact ⟨r, rfl, hb _ _ _ _ r ((numS_some (k := 1) num1 h2).trans rfl)⟩
      · rw [if_pos (by decide)] at h
        obtain ⟨rfl, r, rfl, h2⟩ := finP_sound h
        exact ⟨r, rfl, hb _ _ _ _ r ((numS_some (k := 8) num8 h2).trans rfl)⟩
      · rw [if_neg (by decide), if_pos (by decide)] at h
        obtain ⟨rfl, r, rfl, h2⟩ := finP_sound h
        obtain ⟨h3, h4⟩ := textS_some (k := 2) (most := 4096) txt2 h2
        refine ⟨r, rfl, hb _ _ _ _ r (h3.trans ?_)⟩
        show _ = some ((be 2 (str8 (textS 2 4096 s1).1).size ++ sb (str8 (textS 2 4096 s1).1)) ++ r)
        rw [str8_size, sb_str8, List.append_assoc]
        rfl
      · rw [if_neg (by decide), if_pos (by decide)] at h
        obtain ⟨rfl, r, rfl, h2⟩ := finP_sound h
        obtain ⟨h3, h4⟩ := textS_some (k := 4) (most := 4096) txt4 h2
        refine ⟨r, rfl, hb _ _ _ _ r (h3.trans ?_)⟩
        show _ = some ((be 4 (str8 (textS 4 4096 s1).1).size ++ sb (str8 (textS 4 4096 s1).1)) ++ r)
        rw [str8_size, sb_str8, List.append_assoc]
        rfl
      · rw [if_neg (by decide), if_neg (by decide), if_pos rfl] at h
        unfold listP at h
        cases h1 : itemsP (valP f) false (numS 4 (numS 4 s1).2).1 m (numS 4 (numS 4 s1).2).2 with
        | none => rw [h1] at h; cases h
        | some p =>
          obtain ⟨ks, l, m1, s2⟩ := p
          simp only [h1] at h
          split at h
          · rename_i hsz
            obtain ⟨rfl, r, rfl, h2⟩ := finP_sound h
            subst h2
            obtain ⟨b1, b2, b3, b4⟩ := itemsP_sound (valP_sound f) false _ _ _ [] ks l m1 r (by simp) h1
            have b4 : (numS 4 (numS 4 s1).2).2 = some (itemsB ks 0 l ++ r) := by simpa using b4
            have b5 := numS_some (k := 4) num4 b4
            have b6 := numS_some (k := 4) num4 b5
            refine ⟨r, rfl, hb _ _ _ _ r (b6.trans ?_)⟩
            rw [b5] at hsz
            simp only [lenS] at hsz
            show _ = some ((be 4 (be 4 l.length ++ itemsB ks 0 l).length ++ (be 4 l.length ++ itemsB ks 0 l)) ++ r)
            have e2 : (numS ((4 : Nat) : Int) s1).1 = (be 4 l.length ++ itemsB ks 0 l).length := by
              show (numS 4 s1).1 = _
              rw [← hsz]
              simp only [List.length_append, be_length]
              omega
            rw [e2, b3]
            simp
          · cases h
      · rw [if_neg (by decide), if_neg (by decide), if_pos rfl] at h
        unfold listP at h
        cases h1 : itemsP (valP f) true (numS 4 (numS 4 s1).2).1 m (numS 4 (numS 4 s1).2).2 with
        | none => rw [h1] at h; cases h
        | some p =>
          obtain ⟨ks, l, m1, s2⟩ := p
          simp only [h1] at h
          split at h
          · rename_i hsz
            obtain ⟨rfl, r, rfl, h2⟩ := finP_sound h
            subst h2
            obtain ⟨b1, b2, b3, b4⟩ := itemsP_sound (valP_sound f) true _ _ _ [] ks l m1 r (by simp) h1
            have b4 : (numS 4 (numS 4 s1).2).2 = some (itemsB ks 0 l ++ r) := by simpa using b4
            have b5 := numS_some (k := 4) num4 b4
            have b6 := numS_some (k := 4) num4 b5
            refine ⟨r, rfl, hb _ _ _ _ r (b6.trans ?_)⟩
            rw [b5] at hsz
            simp only [lenS] at hsz
            show _ = some ((be 4 (be 4 l.length ++ itemsB ks 0 l).length ++ (be 4 l.length ++ itemsB ks 0 l)) ++ r)
            have e2 : (numS ((4 : Nat) : Int) s1).1 = (be 4 l.length ++ itemsB ks 0 l).length := by
              show (numS 4 s1).1 = _
              rw [← hsz]
              simp only [List.length_append, be_length]
              omega
            rw [e2, b3]
            simp
          · cases h
      · rw [if_neg (by decide), if_neg (by decide), if_neg (by decide)] at h
        obtain ⟨rfl, r, rfl, h2⟩ := finP_sound h
        exact ⟨r, rfl, hb _ _ _ _ r (by rw [h2]; rfl)⟩

/-! ### Get -/
theorem check_ok {t : Tree} (h : checkT t = 0) : deepD 6 t = false ∧ cntT t ≤ 200 ∧ validT t = true := by
  unfold checkT at h
  repeat' split at h
  all_goals first | (exact absurd h (by decide)) | skip
  rename_i h1 h2 h3
  exact ⟨by simpa using h1, by omega, by simpa using h3⟩
theorem bytes_le {t : Tree} (h : checkT t = 0) : (bytesT t).length ≤ 872200 := by
  obtain ⟨_, h1, h2⟩ := check_ok h
  have := bytes_len t h2
  omega
/-- Get of a value's bytes, whatever stands behind. -/
theorem get_put {t : Tree} (h : checkT t = 0) (r : List UInt8) : getP (bytesT t ++ r) = some (t, (bytesT t).length) := by
  obtain ⟨_, h1, h2⟩ := check_ok h
  have hb := bytes_le h
  have e : (bytesT t ++ r).take 872200 = bytesT t ++ r.take (872200 - (bytesT t).length) := by
    rw [List.take_append, List.take_of_length_le hb]
  unfold getP
  rw [e, valP_bytes t h2 h1 200 200 _ h1 (Nat.le_refl _)]
  simp only [h, if_true, lenS, List.length_append]
  congr 2
  omega
/-- What Get tells, put again, is the bytes that it took. -/
theorem put_get {l : List UInt8} {t : Tree} {n : Nat} (h : getP l = some (t, n)) : checkT t = 0 ∧ n = (bytesT t).length ∧ n ≤ l.length ∧ ∃ r, l = bytesT t ++ r := by
  unfold getP at h
  split at h
  · cases h
  · rename_i t' m' s' hv
    split at h
    · rename_i hc
      obtain ⟨r, rfl, h1⟩ := valP_sound 200 _ _ _ _ _ hv
      simp only [Option.some.injEq, Prod.mk.injEq] at h
      obtain ⟨rfl, h2⟩ := h
      have h1 := Option.some.inj h1
      have h3 : n = (bytesT t').length := by rw [← h2, h1]; simp [lenS]
      have h4 : l = bytesT t' ++ (r ++ l.drop 872200) := by
        rw [← List.append_assoc, ← h1, List.take_append_drop]
      refine ⟨hc, h3, ?_, _, h4⟩
      rw [h3, h4]
      simp
    · cases h

/-- Values that may be have the same bytes just if they are the same. -/
theorem bytes_inj {a b : Tree} (ha : checkT a = 0) (hb : checkT b = 0) (h : bytesT a = bytesT b) : a = b := by
  have h1 := get_put ha []
  have h2 := get_put hb []
  rw [h, h2] at h1
  simp only [Option.some.injEq, Prod.mk.injEq] at h1
  exact h1.1.symm
mutual
theorem sameT_eq2 : ∀ (a b : Tree), sameT a b = true → a = b
  | .node k n s ks l, .node k' n' s' ks' l', h => by
    rw [sameT_eq, Bool.and_eq_true, decide_eq_true_iff] at h
    obtain ⟨⟨h1, h2, h3, h4⟩, h5⟩ := h
    simp only [Tree.k, Tree.n, Tree.s, Tree.ks, Tree.l] at h1 h2 h3 h4 h5
    rw [h1, h2, h3, h4, sameL_eq2 l l' h5]
theorem sameL_eq2 : ∀ (a b : List Tree), sameL a b = true → a = b
  | [], [], _ => rfl
  | [], b :: q, h => by cases h
  | a :: r, [], h => by cases h
  | a :: r, b :: q, h => by
    have h' : (sameT a b && sameL r q) = true := h
    rw [Bool.and_eq_true] at h'
    rw [sameT_eq2 a b h'.1, sameL_eq2 r q h'.2]
end
mutual
theorem sameT_refl : ∀ (a : Tree), sameT a a = true
  | .node k n s ks l => by
    rw [sameT_eq, Bool.and_eq_true, decide_eq_true_iff]
    exact ⟨⟨rfl, rfl, rfl, rfl⟩, sameL_refl l⟩
theorem sameL_refl : ∀ (a : List Tree), sameL a a = true
  | [] => rfl
  | a :: r => by
    show (sameT a a && sameL r r) = true
    rw [sameT_refl a, sameL_refl r]
    rfl
end
theorem sameT_iff (a b : Tree) : sameT a b = true ↔ a = b := ⟨sameT_eq2 a b, fun h => h ▸ sameT_refl a⟩
/-- A beginning of a value's bytes that is not all of them is no value's. -/
theorem get_cut {t : Tree} (h : checkT t = 0) (k : Nat) (hk : k < (bytesT t).length) : getP ((bytesT t).take k) = none := by
  cases hg : getP ((bytesT t).take k) with
  | none => rfl
  | some p =>
    obtain ⟨t', n⟩ := p
    obtain ⟨h1, h2, h3, r, h4⟩ := put_get hg
    have h5 : bytesT t = bytesT t' ++ (r ++ (bytesT t).drop k) := by rw [← List.append_assoc, ← h4, List.take_append_drop]
    have h6 := get_put h1 (r ++ (bytesT t).drop k)
    rw [← h5] at h6
    have h7 := get_put h []
    rw [List.append_nil, h6] at h7
    simp only [Option.some.injEq, Prod.mk.injEq] at h7
    rw [List.length_take] at h3
    omega

end Go.Proofs.YtpmafabphlejeaaGreat
/-
  The contracts of the law's own head and of the document's Small.
  Conditions: none but sizes.
-/
namespace Go.Proofs.YtpmafabphlejeaaGreat
open Go.RowKit
set_option linter.unusedVariables false
set_option linter.unusedSimpArgs false

def tB (n : Nat) : Tree := .node 8 n ⟨#[]⟩ [] []
def tV : Tree := .node 240 0 ⟨#[]⟩ [] []
def tL : Tree := .node 169 0 ⟨#[]⟩ [] [tB 1, tV]
theorem rk_nil (k : Nat) (n : Nat) (h : (layD k).keys = false) : rightKeys k [] n := by unfold rightKeys; rw [if_neg (by rw [h]; simp)]
theorem valid_leaf {t : Tree} (hl : t.l = []) (h : headOK t) : validT t = true := by rw [validT_eq, (headB_iff t).2 h, hl]; rfl
theorem valid_tB : validT (tB 1) = true := valid_leaf rfl ⟨rfl, by decide, by decide, fun _ => rfl, by decide, rk_nil _ _ rfl⟩
theorem valid_tV : validT tV = true := valid_leaf rfl ⟨rfl, by decide, by decide, fun _ => rfl, by decide, rk_nil _ _ rfl⟩
theorem valid_tL : validT tL = true := by
  have hh : headOK tL := ⟨rfl, by decide, by decide, fun h => by exact absurd h (by decide), by decide, rk_nil _ _ rfl⟩
  rw [validT_eq, (headB_iff tL).2 hh]
  show (validT (tB 1) && (validT tV && true)) = true
  rw [valid_tB, valid_tV]
  rfl
theorem check_tL : checkT tL = 0 := by
  unfold checkT
  rw [if_neg (by decide), if_neg (by decide), valid_tL]
  rfl
theorem check_tV : checkT tV = 0 := by
  unfold checkT
  rw [if_neg (by decide), if_neg (by decide), valid_tV]
  rfl
theorem check_tB2 : checkT (tB 2) = 50 := by
  have : validT (tB 2) = false := validT_no (fun h => by have := h.2.1; exact absurd this (by decide))
  unfold checkT
  rw [if_neg (by decide), if_neg (by decide), this]
  rfl
theorem bytes_tL : bytesT tL = [169, 0, 0, 0, 7, 0, 0, 0, 2, 8, 1, 240] := by decide
theorem get_VV : getP [240, 240] = some (tV, 1) := by
  have h := get_put check_tV [240]
  have e : bytesT tV = [240] := by decide
  rw [e] at h
  exact h

theorem shows_leaf (w : World) (k n : Nat) (hk : k < 256) (hn : n < 18446744073709551616) : ShowsT w (.node k n ⟨#[]⟩ [] []) [.int .u8 k, .int .u64 n, .string ⟨#[]⟩, .slice none 0 0, .slice none 0 0] :=
  ShowsT.make (ks := []) (l := []) hk hn (ShowsG.nil_ _ _ 0) (by simp) (by simp) (Nat.zero_le _) (ListT.nil _)

theorem shows_fr {w : World} {e : TypeId} {fr : Nat × Nat} : Shows (w.alloc (.cells #[.int .u8 240, .int .u8 240] e fr)) w.heap.size (.slice (some ⟨w.heap.size, 0, none⟩) 2 2) [240, 240] := by
  refine ⟨_, 2, rfl, by simp, by simp [maxLen], fun hp => ⟨0, rfl, by simp, fun j hj => ?_⟩⟩
  rw [cell_of_row _ _ (0 + j) _ e fr (heap_alloc_new w _)]
  match j, hj with
  | 0, _ => rfl
  | 1, _ => rfl

set_option maxRecDepth 100000 in
set_option maxHeartbeats 1000000 in
/-- What is small has at most 400 values, and 20000 bytes and keys. -/
theorem small_any (t : Tree) (vs : List Value) (w : World) (h : ShowsT w t vs) :
    Calls Tryz.prog 59 #[.agg vs.toArray] w fun e w' => ∃ r : Bool, e = .returned (.bool r) ∧ (r = true → cntT t ≤ 400 ∧ wgtT t ≤ 20000) ∧ Below w.heap.size w w' := by
  have HL := Lib.hid (fun w' (hw' : Below w.heap.size w w') => qleft_any 400 t vs w' (h.kept hw' (Nat.le_refl _)) (by omega))
  have HD := Lib.hid (fun w' (hw' : Below w.heap.size w w') => qdeep_any 40 t vs w' (h.kept hw' (Nat.le_refl _)) (by omega))
  have HS := Lib.hid (fun w' (hw' : Below w.heap.size w w') => qsmall_main _ t vs 20000 w' rfl (h.kept hw' (Nat.le_refl _)) (by omega))
  obtain ⟨k0, n0, s0, a3, n3, c3, a4, n4, c4, rfl⟩ := h.cells5
  have hX := BoxV.new (v0 := .int .u8 k0) (v1 := .int .u64 n0) (v2 := .string s0) (v3 := .slice a3 n3 c3) (v4 := .slice a4 n4 c4) w
  have hBX := below_boxV w (Obj.cells #[.int .u8 k0, .int .u64 n0, .string s0, .slice a3 n3 c3, .slice a4 n4 c4] 31)
  have hr1 := remD_cases 400 (cntT t)
  have hr2 := remD_cases 20000 (wgtT t)
  have HR1 := Lib.hid hr1
  have HR2 := Lib.hid hr2
  generalize remD 400 (cntT t) = r1 at *
  generalize remD 20000 (wgtT t) = r2 at *
  generalize deepD 40 t = dp at *
  have HX := Lib.hid hX
  have HBX := Lib.hid hBX
  clear h hX hBX hr1 hr2
  go_enter Tryz.func59, Tryz.ntmps59
  go_wp2_with fail
  refine (HL.out _ HBX.out).mono ?_
  rintro e w1 ⟨rfl, hb1⟩
  have hX1 := HX.out.kept hb1 (Nat.le_refl _)
  have hB1 := HBX.out.trans (hb1.mono HBX.out.size)
  have x0 := hX1.c0
  have x1 := hX1.c1
  have x2 := hX1.c2
  have x3 := hX1.c3
  have x4 := hX1.c4
  by_cases h1 : r1 < 0
  · go_wp2_with fail
    go_ret
    exact ⟨false, rfl, fun h => by simp at h, hB1⟩
  · have HX1 := Lib.hid hX1
    have HB1 := Lib.hid hB1
    clear hX1 hB1
    go_wp2_with fail
    refine (HD.out _ HB1.out).mono ?_
    rintro e w2 ⟨rfl, hb2⟩
    have hX2 := HX1.out.kept hb2 (Nat.le_refl _)
    have hB2 := HB1.out.trans (hb2.mono HB1.out.size)
    clear x0 x1 x2 x3 x4
    have x0 := hX2.c0
    have x1 := hX2.c1
    have x2 := hX2.c2
    have x3 := hX2.c3
    have x4 := hX2.c4
    have HX2 := Lib.hid hX2
    have HB2 := Lib.hid hB2
    clear hX2 hB2
    cases dp with
    | true =>
      go_wp2_with fail
      go_ret
      exact ⟨false, rfl, fun h => by simp at h, HB2.out⟩
    | false =>
      go_wp2_with fail
      refine (HS.out _ HB2.out).mono ?_
      rintro e w3 ⟨rfl, hb3⟩
      go_wp2_with fail
      go_ret
      refine ⟨_, rfl, fun h => ?_, HB2.out.trans (hb3.mono HB2.out.size)⟩
      have h3 : 0 ≤ r2 := by simpa using h
      have := HR1.out
      have := HR2.out
      omega

end Go.Proofs.YtpmafabphlejeaaGreat
