/-
  Texts, together: RqP, ValY.
  Conditions: none but sizes.
-/
import Derived.Test.YtdklhcmoilcpgaaGreatValPZ
import Derived.Test.YtdklhcmoilcpgaaGreatValTZ
set_option linter.unusedVariables false
set_option linter.unusedSimpArgs false
namespace Go.Proofs.YtdklhcmoilcpgaaGreat
open Go.RowKit
def readQ : Nat → Nat → St → Option (Tree × Nat × St)
  | 0, _, _ => none
  | _ + 1, 0, _ => none
  | dl + 1, n + 1, s =>
    if (numS 1 s).1 = 8 ∨ (numS 1 s).1 = 2 then finP (.node (numS 1 s).1 (numS 1 (numS 1 s).2).1 ⟨#[]⟩ [] []) n (numS 1 (numS 1 s).2).2
    else if (numS 1 s).1 = 49 ∨ (numS 1 s).1 = 50 then finP (.node (numS 1 s).1 (numS 8 (numS 1 s).2).1 ⟨#[]⟩ [] []) n (numS 8 (numS 1 s).2).2
    else if (numS 1 s).1 = 149 then finP (.node (numS 1 s).1 0 (str8 (textS 2 4096 (numS 1 s).2).1) [] []) n (textS 2 4096 (numS 1 s).2).2
    else if (numS 1 s).1 = 160 then finP (.node (numS 1 s).1 0 (str8 (textS 4 4096 (numS 1 s).2).1) [] []) n (textS 4 4096 (numS 1 s).2).2
    else if (numS 1 s).1 = 168 ∨ (numS 1 s).1 = 169 then
      match itemsP (readQ dl) (decide ((numS 1 s).1 = 168)) (min (numS 4 (numS 4 (numS 1 s).2).2).1 200) n (numS 4 (numS 4 (numS 1 s).2).2).2 with
      | none => none
      | some (ks, l, m', s') => finP (.node (numS 1 s).1 0 ⟨#[]⟩ ks l) m' s'
    else finP (.node (numS 1 s).1 0 ⟨#[]⟩ [] []) n (numS 1 s).2
theorem readQ_leaves : ∀ dl, LeavesV (readQ dl)
 | 0 => fun m s t m' s' h => by cases h
 | dl + 1 => fun m s t m' s' h => by
  cases m with
  | zero => cases h
  | succ m =>
   have hk := numS_lenS 1 s
   unfold readQ at h
   split at h
   ·obtain ⟨_, rfl, rfl, hn⟩ := finP_some h
    have := numS_lenS 1 (numS 1 s).2
    exact ⟨by omega, by omega, hn⟩
   split at h
   ·obtain ⟨_, rfl, rfl, hn⟩ := finP_some h
    have := numS_lenS 8 (numS 1 s).2
    exact ⟨by omega, by omega, hn⟩
   split at h
   ·obtain ⟨_, rfl, rfl, hn⟩ := finP_some h
    have := textS_lenS 2 4096 (numS 1 s).2
    exact ⟨by omega, by omega, hn⟩
   split at h
   ·obtain ⟨_, rfl, rfl, hn⟩ := finP_some h
    have := textS_lenS 4 4096 (numS 1 s).2
    exact ⟨by omega, by omega, hn⟩
   split at h
   ·cases h1 : itemsP (readQ dl) (decide ((numS 1 s).1 = 168)) (min (numS 4 (numS 4 (numS 1 s).2).2).1 200) m (numS 4 (numS 4 (numS 1 s).2).2).2 with
    | none => rw [h1] at h; cases h
    | some p =>
     obtain ⟨ks, l, m1, s1⟩ := p
     simp only [h1] at h
     obtain ⟨_, rfl, rfl, hn⟩ := finP_some h
     obtain ⟨b1, b2, b3⟩ := itemsP_leaves (readQ_leaves dl) _ _ _ _ _ _ _ _ h1
     have := numS_lenS 4 (numS 1 s).2
     have := numS_lenS 4 (numS 4 (numS 1 s).2).2
     exact ⟨by omega, by omega, hn⟩
   ·obtain ⟨_, rfl, rfl, hn⟩ := finP_some h
    exact ⟨by omega, by omega, hn⟩
theorem deep_child {dl : Nat} {k n : Nat} {s : ByteArray} {ks : List ByteArray} {l : List Tree} (h : deepD (dl + 1) (.node k n s ks l) = false) : ∀ a ∈ l, deepD dl a = false := by
 intro a ha
 have h' : l.any (deepD dl) = false := h
 rw [List.any_eq_false] at h'
 have := h' a ha
 simpa using this
theorem cntL_len2 : ∀ l : List Tree, l.length ≤ cntL l
 | [] => by simp
 | a :: r => by
  have h1 : cntL (a :: r) = cntT a + cntL r := rfl
  have h2 := cntT_eq a
  have := cntL_len2 r
  simp only [List.length_cons]
  omega
mutual
theorem readQ_bytes : ∀ (t : Tree), validT t = true → cntT t ≤ 200 → ∀ (dl m : Nat) (r : List UInt8), deepD dl t = false → cntT t ≤ m → readQ dl m (some (bytesT t ++ r)) = some (t, m - cntT t, some r)
 | .node k n s ks l, hv, hc, dl, m, r, hd, h1 => by
  have hh := validT_head hv
  have hl : validL l = true := by rw [validT_eq, Bool.and_eq_true] at hv; exact hv.2
  have hkf := headKeys hh
  obtain ⟨g1, g2, g3, g4, _, _⟩ := hh
  simp only [Tree.k, Tree.n, Tree.s, Tree.l, Tree.ks] at g1 g2 g3 g4 hkf
  have hk := known_lt g1
  have hcn : cntT (.node k n s ks l) = 1 + cntL l := rfl
  obtain ⟨dl, rfl⟩ : ∃ d', dl = d' + 1 := by
   cases dl with
   | zero => cases hd
   | succ d => exact ⟨d, rfl⟩
  obtain ⟨m, rfl⟩ : ∃ m', m = m' + 1 := ⟨m - 1, by omega⟩
  have hdc := deep_child hd
  have ek : numS 1 (some (be 1 k ++ (bodyB (layD k) n s (be 4 l.length ++ itemsB ks 0 l) ++ r))) = (k, some (bodyB (layD k) n s (be 4 l.length ++ itemsB ks 0 l) ++ r)) := numS_be 1 k _ num1 (by omega)
  have eb : bytesT (.node k n s ks l) ++ r = be 1 k ++ (bodyB (layD k) n s (be 4 l.length ++ itemsB ks 0 l) ++ r) := by
   show (be 1 k ++ bodyB (layD k) n s (be 4 l.length ++ itemsB ks 0 l)) ++ r = _
   rw [List.append_assoc]
  rw [eb, readQ, ek]
  simp only []
  have hm : m + 1 - cntT (.node k n s ks l) = m - cntL l := by omega
  rw [hm]
  have hleaf : (layD k).list = false → m - cntL l = m ∧ l = [] := fun hx => by
   have := g4 hx
   subst this
   exact ⟨rfl, rfl⟩
  have hil : (be 4 l.length ++ itemsB ks 0 l).length < 4294967296 := by
   have hks : ∀ x ∈ ks, x.size ≤ 255 := fun x hx => by
    unfold KeysFit at hkf
    split at hkf
    ·exact hkf.2 x hx
    ·rw [hkf] at hx; simp at hx
   have := items_len ks hks l 0 hl
   rw [List.length_append, be_length]
   omega
  unfold knownD at g1
  rw [decide_eq_true_iff] at g1
  have leaf : (layD k).list = false → (layD k).keys = false → l = [] ∧ ks = [] ∧ m - cntL l = m := fun h1 h2 => by
   obtain ⟨e1, e2⟩ := hleaf h1
   unfold KeysFit at hkf
   rw [if_neg (by rw [h2]; decide)] at hkf
   exact ⟨e2, hkf, e1⟩
  rcases g1 with rfl | rfl | rfl | rfl | rfl | rfl | rfl | rfl | rfl
  ·obtain ⟨rfl, rfl, e1⟩ := leaf rfl rfl
   have hn : n = 0 := Nat.le_zero.1 g2
   subst hn
   obtain rfl := empty_size g3
   rw [if_neg (by decide), if_neg (by decide), if_neg (by decide), if_neg (by decide), if_neg (by decide), e1]
   rfl
  ·obtain ⟨rfl, rfl, e1⟩ := leaf rfl rfl
   obtain rfl := empty_size g3
   rw [if_pos (by decide), e1]
   show finP (.node 8 (numS ((1 : Nat) : Int) (some (be 1 n ++ r))).1 ⟨#[]⟩ [] []) m (numS ((1 : Nat) : Int) (some (be 1 n ++ r))).2 = _
   have g2' : n ≤ 1 := g2
   rw [numS_be 1 n r num1 (by omega)]
   rfl
  ·obtain ⟨rfl, rfl, e1⟩ := leaf rfl rfl
   obtain rfl := empty_size g3
   rw [if_pos (by decide), e1]
   show finP (.node 2 (numS ((1 : Nat) : Int) (some (be 1 n ++ r))).1 ⟨#[]⟩ [] []) m (numS ((1 : Nat) : Int) (some (be 1 n ++ r))).2 = _
   have g2' : n ≤ 255 := g2
   rw [numS_be 1 n r num1 (by omega)]
   rfl
  ·obtain ⟨rfl, rfl, e1⟩ := leaf rfl rfl
   obtain rfl := empty_size g3
   rw [if_neg (by decide), if_pos (by decide), e1]
   show finP (.node 50 (numS ((8 : Nat) : Int) (some (be 8 n ++ r))).1 ⟨#[]⟩ [] []) m (numS ((8 : Nat) : Int) (some (be 8 n ++ r))).2 = _
   have g2' : n ≤ 18446744073709551615 := g2
   rw [numS_be 8 n r num8 (by omega)]
   rfl
  ·obtain ⟨rfl, rfl, e1⟩ := leaf rfl rfl
   obtain rfl := empty_size g3
   rw [if_neg (by decide), if_pos (by decide), e1]
   show finP (.node 49 (numS ((8 : Nat) : Int) (some (be 8 n ++ r))).1 ⟨#[]⟩ [] []) m (numS ((8 : Nat) : Int) (some (be 8 n ++ r))).2 = _
   have g2' : n ≤ 18446744073709551615 := g2
   rw [numS_be 8 n r num8 (by omega)]
   rfl
  ·obtain ⟨rfl, rfl, e1⟩ := leaf rfl rfl
   have hn : n = 0 := Nat.le_zero.1 g2
   subst hn
   have g3' : s.size ≤ 4096 := g3
   rw [if_neg (by decide), if_neg (by decide), if_pos (by decide), e1]
   show finP (.node 149 0 (str8 (textS ((2 : Nat) : Int) ((4096 : Nat) : Int) (some ((be 2 s.size ++ sb s) ++ r))).1) [] []) m (textS ((2 : Nat) : Int) ((4096 : Nat) : Int) (some ((be 2 s.size ++ sb s) ++ r))).2 = _
   rw [List.append_assoc, ← sb_length s, textS_be 2 4096 (sb s) r txt2 (by rw [sb_length]; omega) (by rw [sb_length]; omega), str8_sb]
   rfl
  ·obtain ⟨rfl, rfl, e1⟩ := leaf rfl rfl
   have hn : n = 0 := Nat.le_zero.1 g2
   subst hn
   have g3' : s.size ≤ 4096 := g3
   rw [if_neg (by decide), if_neg (by decide), if_neg (by decide), if_pos (by decide), e1]
   show finP (.node 160 0 (str8 (textS ((4 : Nat) : Int) ((4096 : Nat) : Int) (some ((be 4 s.size ++ sb s) ++ r))).1) [] []) m (textS ((4 : Nat) : Int) ((4096 : Nat) : Int) (some ((be 4 s.size ++ sb s) ++ r))).2 = _
   rw [List.append_assoc, ← sb_length s, textS_be 4 4096 (sb s) r txt4 (by rw [sb_length]; omega) (by rw [sb_length]; omega), str8_sb]
   rfl
  ·have hn : n = 0 := Nat.le_zero.1 g2
   subst hn
   obtain rfl := empty_size g3
   have hll := cntL_len2 l
   simp [KeysFit, layD] at hkf
   subst hkf
   rw [if_neg (by decide), if_neg (by decide), if_neg (by decide), if_neg (by decide), if_pos (by decide)]
   have e1 : numS ((4 : Nat) : Int) (some ((be 4 (be 4 l.length ++ itemsB [] 0 l).length ++ (be 4 l.length ++ itemsB [] 0 l)) ++ r)) = ((be 4 l.length ++ itemsB [] 0 l).length, some (be 4 l.length ++ (itemsB [] 0 l ++ r))) := by
    rw [List.append_assoc, List.append_assoc (be 4 l.length)]
    exact numS_be 4 _ _ num4 hil
   have e2 : numS ((4 : Nat) : Int) (some (be 4 l.length ++ (itemsB [] 0 l ++ r))) = (l.length, some (itemsB [] 0 l ++ r)) := numS_be 4 _ _ num4 (by omega)
   show (match itemsP (readQ dl) (decide ((169 : Nat) = 168)) (min (numS ((4 : Nat) : Int) (numS ((4 : Nat) : Int) (some ((be 4 (be 4 l.length ++ itemsB [] 0 l).length ++ (be 4 l.length ++ itemsB [] 0 l)) ++ r))).2).1 200) m (numS ((4 : Nat) : Int) (numS ((4 : Nat) : Int) (some ((be 4 (be 4 l.length ++ itemsB [] 0 l).length ++ (be 4 l.length ++ itemsB [] 0 l)) ++ r))).2).2 with | none => none | some (ks, l, m', s') => finP (.node 169 0 ⟨#[]⟩ ks l) m' s') = _
   rw [e1]
   simp only []
   rw [e2]
   simp only []
   have hit := readItems_bytes false [] (fun x hx => by simp at hx) l hl (by omega) 0 dl m r (by simp) hdc (by omega)
   rw [Nat.min_eq_left (by omega), show decide ((169 : Nat) = 168) = false from rfl, hit]
   rfl
  ·have hn : n = 0 := Nat.le_zero.1 g2
   subst hn
   obtain rfl := empty_size g3
   have hll := cntL_len2 l
   simp [KeysFit, layD] at hkf
   rw [if_neg (by decide), if_neg (by decide), if_neg (by decide), if_neg (by decide), if_pos (by decide)]
   have e1 : numS ((4 : Nat) : Int) (some ((be 4 (be 4 l.length ++ itemsB ks 0 l).length ++ (be 4 l.length ++ itemsB ks 0 l)) ++ r)) = ((be 4 l.length ++ itemsB ks 0 l).length, some (be 4 l.length ++ (itemsB ks 0 l ++ r))) := by
    rw [List.append_assoc, List.append_assoc (be 4 l.length)]
    exact numS_be 4 _ _ num4 hil
   have e2 : numS ((4 : Nat) : Int) (some (be 4 l.length ++ (itemsB ks 0 l ++ r))) = (l.length, some (itemsB ks 0 l ++ r)) := numS_be 4 _ _ num4 (by omega)
   show (match itemsP (readQ dl) (decide ((168 : Nat) = 168)) (min (numS ((4 : Nat) : Int) (numS ((4 : Nat) : Int) (some ((be 4 (be 4 l.length ++ itemsB ks 0 l).length ++ (be 4 l.length ++ itemsB ks 0 l)) ++ r))).2).1 200) m (numS ((4 : Nat) : Int) (numS ((4 : Nat) : Int) (some ((be 4 (be 4 l.length ++ itemsB ks 0 l).length ++ (be 4 l.length ++ itemsB ks 0 l)) ++ r))).2).2 with | none => none | some (ks, l, m', s') => finP (.node 168 0 ⟨#[]⟩ ks l) m' s') = _
   rw [e1]
   simp only []
   rw [e2]
   simp only []
   have hit := readItems_bytes true ks (fun x hx => hkf.2 x hx) l hl (by omega) 0 dl m r (by simpa using hkf.1) hdc (by omega)
   rw [Nat.min_eq_left (by omega)]
   simp only [decide_true]
   rw [hit]
   rfl
theorem readItems_bytes (keys : Bool) (ks : List ByteArray) (hks : ∀ x ∈ ks, x.size ≤ 255) : ∀ (l : List Tree), validL l = true → cntL l ≤ 200 → ∀ (i dl m : Nat) (r : List UInt8), (if keys = true then ks.length = i + l.length else ks = []) → (∀ a ∈ l, deepD dl a = false) → cntL l ≤ m →
  itemsP (readQ dl) keys l.length m (some (itemsB ks i l ++ r)) = some (if keys = true then ks.drop i else [], l, m - cntL l, some r)
 | [], _, _, i, dl, m, r, hk, _, _ => by
  have e : (if keys = true then ks.drop i else []) = [] := by
   split
   ·rename_i h; rw [if_pos h] at hk; simp at hk; exact List.drop_eq_nil_of_le (by omega)
   ·rfl
  rw [e]
  rfl
 | a :: l, hv, hc, i, dl, m, r, hk, hd, h1 => by
  have hv' : (validT a && validL l) = true := hv
  rw [Bool.and_eq_true] at hv'
  have hcl : cntL (a :: l) = cntT a + cntL l := rfl
  have eb : itemsB ks i (a :: l) ++ r = keyOf8 ks i ++ (bytesT a ++ (itemsB ks (i + 1) l ++ r)) := by simp [itemsB]
  rw [eb]
  show itemsP (readQ dl) keys (l.length + 1) m _ = _
  have hrest : (if keys = true then ks.length = (i + 1) + l.length else ks = []) := by
   split <;> rename_i h
   ·rw [if_pos h] at hk; simp at hk; omega
   ·rw [if_neg h] at hk; exact hk
  have ih := readItems_bytes keys ks hks l hv'.2 (by omega) (i + 1) dl (m - cntT a) r hrest (fun x hx => hd x (by simp [hx])) (by omega)
  have ha := readQ_bytes a hv'.1 (by omega) dl m (itemsB ks (i + 1) l ++ r) (hd a (by simp)) (by omega)
  cases keys with
  | true =>
   rw [if_pos rfl] at hk
   have hi : i < ks.length := by simp at hk; omega
   have hz := hks _ (List.getElem_mem hi)
   have et : textS 1 255 (some (keyOf8 ks i ++ (bytesT a ++ (itemsB ks (i + 1) l ++ r)))) = (sb ks[i], some (bytesT a ++ (itemsB ks (i + 1) l ++ r))) := by
    rw [keyOf8_get ks i hi, List.append_assoc, ← sb_length]
    exact textS_be 1 255 (sb ks[i]) _ txt1 (by rw [sb_length]; omega) (by rw [sb_length]; omega)
   unfold itemsP
   rw [et]
   simp only [if_true]
   rw [ha]
   simp only []
   rw [ih]
   simp only [str8_sb]
   rw [List.drop_eq_getElem_cons hi, hcl]
   simp
   omega
  | false =>
   rw [if_neg (by simp)] at hk
   subst hk
   unfold itemsP
   simp only [Bool.false_eq_true, if_false]
   have e0 : keyOf8 [] i = [] := keyOf8_none [] i (by simp)
   rw [e0, List.nil_append, ha]
   simp only []
   rw [ih]
   simp only [Bool.false_eq_true, if_false, List.nil_append, hcl]
   simp
   omega
end
theorem refGet (l : List UInt8) : (∀ t m s, readQ 6 200 (some l) = some (t, m, s) → checkT t = 0 → (∃ r, l = bytesT t ++ r) → getP l = some (t, (bytesT t).length)) ∧
  ((readQ 6 200 (some l) = none ∨ ∃ t m s, readQ 6 200 (some l) = some (t, m, s) ∧ (checkT t ≠ 0 ∨ ¬ ∃ r, l = bytesT t ++ r)) → getP l = none) := by
 refine ⟨fun t m s _ h1 ⟨r, h2⟩ => by rw [h2]; exact get_put h1 r, fun h => ?_⟩
 cases hg : getP l with
 | none => rfl
 | some p =>
  exfalso
  obtain ⟨t, n⟩ := p
  obtain ⟨h1, _, _, r, h2⟩ := put_get hg
  obtain ⟨c1, c2, c3⟩ := check_ok h1
  have hb := readQ_bytes t c3 c2 6 200 r c1 (by omega)
  rw [← h2] at hb
  rcases h with h | ⟨t', m, s, h, hx⟩
  ·rw [hb] at h; cases h
  ·rw [hb] at h
   simp only [Option.some.injEq, Prod.mk.injEq] at h
   obtain ⟨rfl, _, _⟩ := h
   rcases hx with hx | hx
   ·exact hx h1
   ·exact hx ⟨r, h2⟩
end Go.Proofs.YtdklhcmoilcpgaaGreat
namespace Go.Proofs.YtdklhcmoilcpgaaGreat
open Go.RowKit
end Go.Proofs.YtdklhcmoilcpgaaGreat
