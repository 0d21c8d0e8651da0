/-
  Without the program: properties, which may be, their bytes; what is read of bytes; properties' bytes are read as those properties.
  Conditions: none.
-/
import Derived.Test.YtpmafabphlejeaaGreatValPZ
import Derived.Test.YtpmafabphlejeaaGreatOctBigZ
namespace Go.Proofs.YtpmafabphlejeaaGreat
open Go.RowKit
set_option linter.unusedVariables false
set_option linter.unusedSimpArgs false

/-- Properties. -/
structure PropP where
  key : ByteArray
  dur : Bool
  red : Bool
  id : ByteArray
  app : Tree
def prZ : Tree := .node 0 0 ⟨#[]⟩ [] []
def zPr : PropP := ⟨⟨#[]⟩, false, false, ⟨#[]⟩, prZ⟩
/-- Which App may be. -/
def appOK (t : Tree) : Prop := (t.k = 168 ∧ checkT t = 0) ∨ t = prZ
def validPr (p : PropP) : Prop := p.key.size ≤ 255 ∧ p.id.size ≤ 255 ∧ appOK p.app
def flA (d r k : Bool) : Nat := (if d = true then 1 else 0) + (if r = true then 2 else 0) + (if k = true then 4 else 0)
def flB (i m : Bool) : Nat := (if i = true then 1 else 0) + (if m = true then 2 else 0)
def hasB (s : ByteArray) : Bool := decide (s.size ≠ 0)
def mapB (t : Tree) : Bool := decide (t.k = 168)
def txtF (s : ByteArray) : List UInt8 := if hasB s = true then be 1 s.size ++ sb s else []
def appF (t : Tree) : List UInt8 := if mapB t = true then bytesT t else []
def partB (c f : Nat) (r : List UInt8) : List UInt8 := be 4 (be 2 c ++ (be 2 f ++ r)).length ++ (be 2 c ++ (be 2 f ++ r))
def fA (p : PropP) : Nat := flA p.dur p.red (hasB p.key)
def fB (p : PropP) : Nat := flB (hasB p.id) (mapB p.app)
def encPr (p : PropP) : List UInt8 := partB 1025 (fA p) (txtF p.key) ++ (if fB p = 0 then [] else partB 1027 (fB p) (txtF p.id ++ appF p.app))

theorem flA_lt (d r k : Bool) : flA d r k < 8 := by cases d <;> cases r <;> cases k <;> decide
theorem flB_lt (i m : Bool) : flB i m < 4 := by cases i <;> cases m <;> decide
theorem fA_lt (p : PropP) : fA p < 8 := flA_lt _ _ _
theorem fB_lt (p : PropP) : fB p < 4 := flB_lt _ _
theorem hasB_no {s : ByteArray} (h : hasB s = false) : s = ⟨#[]⟩ := empty_size (by have := of_decide_eq_false h; omega)
theorem txtF_len (s : ByteArray) (h : s.size ≤ 255) : (txtF s).length ≤ 256 := by
  unfold txtF
  split
  · rw [List.length_append, be_length, sb_length]; omega
  · simp
theorem appF_len {t : Tree} (h : appOK t) : (appF t).length ≤ 872200 := by
  unfold appF
  split
  · rename_i hm
    rcases h with ⟨_, hc⟩ | rfl
    · exact bytes_le hc
    · exact absurd hm (by decide)
  · simp
theorem partB_len (c f : Nat) (r : List UInt8) : (partB c f r).length = 8 + r.length := by
  unfold partB; simp only [List.length_append, be_length]; omega
theorem enc_len {p : PropP} (h : validPr p) : (encPr p).length ≤ 880000 := by
  have h1 := txtF_len _ h.1
  have h2 := txtF_len _ h.2.1
  have h3 := appF_len h.2.2
  unfold encPr
  split
  · simp only [List.length_append, partB_len, List.length_nil]; omega
  · simp only [List.length_append, partB_len]; omega

/-! ### what the program reads -/
/-- The flags of the part that is next, what is left in it, and what is left behind it. -/
def nextPr (s : St) : (Nat × St) × St :=
  let a := textS 4 (lenS s) s
  let b := numS 2 (some a.1)
  (numS 2 b.2, a.2)
def txtR (f bit : Nat) (s : St) : List UInt8 × St := if f &&& bit ≠ 0 then textS 1 255 s else ([], s)
noncomputable def appR (f bit : Nat) (s : St) : Tree :=
  if f &&& bit ≠ 0 then (match getP (takeS (lenS s) s).1 with | none => prZ | some (t, _) => t) else prZ
noncomputable def decPr (l : List UInt8) : PropP :=
  let a := nextPr (some l)
  let b := nextPr a.2
  ⟨str8 (txtR a.1.1 4 a.1.2).1, decide (a.1.1 &&& 1 ≠ 0), decide (a.1.1 &&& 2 ≠ 0), str8 (txtR b.1.1 1 b.1.2).1, appR b.1.1 2 (txtR b.1.1 1 b.1.2).2⟩
open Classical in
noncomputable def getPr (l : List UInt8) : Option PropP := if validPr (decPr l) ∧ encPr (decPr l) = l then some (decPr l) else none

theorem next_part (c f : Nat) (r m : List UInt8) (hc : c < 65536) (hf : f < 65536) (hr : r.length ≤ 900000) : nextPr (some (partB c f r ++ m)) = ((f, some r), some m) := by
  have hl : (be 2 c ++ (be 2 f ++ r)).length = 4 + r.length := by simp only [List.length_append, be_length]; omega
  have e1 : textS 4 (lenS (some (partB c f r ++ m))) (some (partB c f r ++ m)) = (be 2 c ++ (be 2 f ++ r), some m) := by
    have hb : (be 2 c ++ (be 2 f ++ r)).length ≤ (partB c f r ++ m).length := by rw [hl, List.length_append, partB_len]; omega
    have := textS_be 4 (partB c f r ++ m).length (be 2 c ++ (be 2 f ++ r)) m txt4 (by rw [hl]; omega) hb
    show textS 4 ((partB c f r ++ m).length : Nat) (some (partB c f r ++ m)) = _
    rw [show partB c f r ++ m = be 4 (be 2 c ++ (be 2 f ++ r)).length ++ ((be 2 c ++ (be 2 f ++ r)) ++ m) from by unfold partB; rw [List.append_assoc]] at this ⊢
    exact this
  have e2 : numS 2 (some (be 2 c ++ (be 2 f ++ r))) = (c, some (be 2 f ++ r)) := numS_be 2 c _ (by decide) (by omega)
  have e3 : numS 2 (some (be 2 f ++ r)) = (f, some r) := numS_be 2 f _ (by decide) (by omega)
  unfold nextPr
  rw [e1]
  simp only []
  rw [e2]
  simp only []
  rw [e3]
theorem next_nil : nextPr (some []) = ((0, none), none) := by decide +kernel
theorem txtR_no (f bit : Nat) (s : St) (h : f &&& bit = 0) : txtR f bit s = ([], s) := if_neg (by simpa using h)
theorem txtR_yes (f bit : Nat) (s : ByteArray) (r : List UInt8) (h : f &&& bit ≠ 0) (hs : s.size ≤ 255) : txtR f bit (some (be 1 s.size ++ sb s ++ r)) = (sb s, some r) := by
  unfold txtR
  rw [if_pos h, List.append_assoc, ← sb_length]
  exact textS_be 1 255 (sb s) r txt1 (by rw [sb_length]; omega) (by rw [sb_length]; omega)
theorem txtR_put (f bit : Nat) (s : ByteArray) (r : List UInt8) (h : (f &&& bit ≠ 0) ↔ hasB s = true) (hs : s.size ≤ 255) : txtR f bit (some (txtF s ++ r)) = (sb s, some r) := by
  unfold txtF
  cases hb : hasB s with
  | true => rw [if_pos rfl]; exact txtR_yes f bit s r (h.2 hb) hs
  | false =>
    rw [if_neg (by decide), txtR_no f bit _ (by
      by_cases h0 : f &&& bit = 0
      · exact h0
      · rw [h.1 h0] at hb; cases hb), hasB_no hb]
    rfl
theorem appR_put (f bit : Nat) (t : Tree) (h : (f &&& bit ≠ 0) ↔ mapB t = true) (ht : appOK t) : appR f bit (some (appF t)) = t := by
  unfold appR appF
  cases hb : mapB t with
  | true =>
    rw [if_pos (h.2 hb), if_pos rfl]
    have hc : checkT t = 0 := by
      rcases ht with ⟨_, hc⟩ | rfl
      · exact hc
      · exact absurd hb (by decide)
    have e : (takeS (lenS (some (bytesT t))) (some (bytesT t))).1 = bytesT t := by
      show (takeS ((bytesT t).length : Nat) (some (bytesT t))).1 = _
      simp [takeS]
    have := get_put hc []
    rw [List.append_nil] at this
    rw [e, this]
  | false =>
    rw [if_neg (fun h0 => by rw [h.1 h0] at hb; cases hb)]
    rcases ht with ⟨hk, _⟩ | rfl
    · unfold mapB at hb; simp [hk] at hb
    · rfl
theorem has1 (d r k : Bool) : (flA d r k &&& 1 ≠ 0) ↔ d = true := by cases d <;> cases r <;> cases k <;> decide
theorem has2 (d r k : Bool) : (flA d r k &&& 2 ≠ 0) ↔ r = true := by cases d <;> cases r <;> cases k <;> decide
theorem has4 (d r k : Bool) : (flA d r k &&& 4 ≠ 0) ↔ k = true := by cases d <;> cases r <;> cases k <;> decide
theorem hasI (i m : Bool) : (flB i m &&& 1 ≠ 0) ↔ i = true := by cases i <;> cases m <;> decide
theorem hasM (i m : Bool) : (flB i m &&& 2 ≠ 0) ↔ m = true := by cases i <;> cases m <;> decide
theorem flB_zero {i m : Bool} (h : flB i m = 0) : i = false ∧ m = false := by cases i <;> cases m <;> first | exact ⟨rfl, rfl⟩ | exact absurd h (by decide)

/-- Properties' bytes are read as those properties. -/
theorem pdec_enc {p : PropP} (h : validPr p) : decPr (encPr p) = p := by
  obtain ⟨h1, h2, h3⟩ := h
  obtain ⟨key, dur, red, id, app⟩ := p
  simp only at h1 h2 h3
  have l1 := txtF_len _ h1
  have l2 := txtF_len _ h2
  have l3 := appF_len h3
  have ha : fA ⟨key, dur, red, id, app⟩ < 8 := fA_lt _
  have hb : fB ⟨key, dur, red, id, app⟩ < 4 := fB_lt _
  have e4 : txtR (fA ⟨key, dur, red, id, app⟩) 4 (some (txtF key)) = (sb key, some []) := by
    have := txtR_put (fA ⟨key, dur, red, id, app⟩) 4 key [] (has4 _ _ _) h1
    rwa [List.append_nil] at this
  have d1 : decide (fA ⟨key, dur, red, id, app⟩ &&& 1 ≠ 0) = dur := by
    have := has1 dur red (hasB key)
    cases dur with
    | true => exact decide_eq_true (this.2 rfl)
    | false => exact decide_eq_false (fun c => by cases this.1 c)
  have d2 : decide (fA ⟨key, dur, red, id, app⟩ &&& 2 ≠ 0) = red := by
    have := has2 dur red (hasB key)
    cases red with
    | true => exact decide_eq_true (this.2 rfl)
    | false => exact decide_eq_false (fun c => by cases this.1 c)
  by_cases hz : fB ⟨key, dur, red, id, app⟩ = 0
  · have e1 : nextPr (some (encPr ⟨key, dur, red, id, app⟩)) = ((fA ⟨key, dur, red, id, app⟩, some (txtF key)), some []) := by
      unfold encPr
      rw [if_pos hz]
      exact next_part 1025 _ _ [] (by decide) (by omega) (by show (txtF key).length ≤ _; omega)
    obtain ⟨z1, z2⟩ := flB_zero hz
    have ei : id = ⟨#[]⟩ := hasB_no z1
    have eapp : app = prZ := by
      rcases h3 with ⟨hk, _⟩ | h3
      · unfold mapB at z2; simp [hk] at z2
      · exact h3
    unfold decPr
    simp only [e1]
    rw [next_nil]
    simp only [e4]
    rw [d1, d2, txtR_no 0 1 none (by decide)]
    simp only [str8_sb]
    rw [ei, eapp]
    rfl
  · have e1 : nextPr (some (encPr ⟨key, dur, red, id, app⟩)) = ((fA ⟨key, dur, red, id, app⟩, some (txtF key)), some (partB 1027 (fB ⟨key, dur, red, id, app⟩) (txtF id ++ appF app))) := by
      unfold encPr
      rw [if_neg hz]
      exact next_part 1025 _ _ _ (by decide) (by omega) (by show (txtF key).length ≤ _; omega)
    have e2 : nextPr (some (partB 1027 (fB ⟨key, dur, red, id, app⟩) (txtF id ++ appF app))) = ((fB ⟨key, dur, red, id, app⟩, some (txtF id ++ appF app)), some []) := by
      have := next_part 1027 (fB ⟨key, dur, red, id, app⟩) (txtF id ++ appF app) [] (by decide) (by omega) (by rw [List.length_append]; omega)
      rwa [List.append_nil] at this
    have e3 := txtR_put (fB ⟨key, dur, red, id, app⟩) 1 id (appF app) (hasI _ _) h2
    have e5 := appR_put (fB ⟨key, dur, red, id, app⟩) 2 app (hasM _ _) h3
    unfold decPr
    simp only [e1, e2, e3, e4, e5]
    rw [d1, d2]
    simp only [str8_sb]
theorem get_enc {p : PropP} (h : validPr p) : getPr (encPr p) = some p := by
  unfold getPr
  rw [pdec_enc h, if_pos ⟨h, rfl⟩]
theorem get_some {l : List UInt8} {p : PropP} (h : getPr l = some p) : validPr p ∧ encPr p = l := by
  unfold getPr at h
  split at h
  · rename_i h1
    cases h
    exact h1
  · cases h
theorem get_none {l : List UInt8} (h : getPr l = none) (p : PropP) (hp : validPr p) : encPr p ≠ l := by
  rintro rfl
  rw [get_enc hp] at h
  cases h
theorem enc_injP {a b : PropP} (ha : validPr a) (hb : validPr b) (h : encPr a = encPr b) : a = b := by
  have h1 := get_enc ha
  rw [h, get_enc hb] at h1
  exact (Option.some.inj h1).symm

def samePr (a b : PropP) : Bool := decide (a.key = b.key ∧ a.dur = b.dur ∧ a.red = b.red ∧ a.id = b.id) && sameT a.app b.app
theorem samePr_iff (a b : PropP) : samePr a b = true ↔ a = b := by
  unfold samePr
  rw [Bool.and_eq_true, decide_eq_true_eq, sameT_iff]
  cases a; cases b
  simp only [PropP.mk.injEq]
  constructor
  · rintro ⟨⟨h1, h2, h3, h4⟩, h5⟩
    exact ⟨h1, h2, h3, h4, h5⟩
  · rintro ⟨h1, h2, h3, h4, h5⟩
    exact ⟨⟨h1, h2, h3, h4⟩, h5⟩
theorem samePr_refl (a : PropP) : samePr a a = true := (samePr_iff a a).2 rfl

/-! ### what the document reads -/
def qtxt (b : Bool) (s : St) : List UInt8 × St := if b = true then textS 1 255 s else ([], s)
noncomputable def qapp (b : Bool) (l : List UInt8) : Tree := if b = true then (match getP l with | none => prZ | some (t, _) => t) else prZ
def leftB : St → List UInt8
  | none => []
  | some l => l
noncomputable def qdec (l : List UInt8) : PropP :=
  let a := numS 1 (takeS 7 (some l)).2
  let k := qtxt (decide (a.1 / 4 % 2 = 1)) a.2
  let b := numS 1 (takeS 7 k.2).2
  let i := qtxt (decide (b.1 % 2 = 1)) b.2
  if (leftB k.2).length = 0 then ⟨str8 k.1, decide (a.1 % 2 = 1), decide (a.1 / 2 % 2 = 1), ⟨#[]⟩, prZ⟩
  else ⟨str8 k.1, decide (a.1 % 2 = 1), decide (a.1 / 2 % 2 = 1), str8 i.1, qapp (decide (b.1 / 2 % 2 = 1)) (leftB i.2)⟩

theorem part_seven (c f : Nat) (r : List UInt8) (hf : f < 256) : ∃ x : List UInt8, x.length = 7 ∧ partB c f r = x ++ (be 1 f ++ r) := by
  refine ⟨be 4 (be 2 c ++ (be 2 f ++ r)).length ++ (be 2 c ++ [UInt8.ofNat (f / 256)]), by simp [be_length], ?_⟩
  have e : be 2 f = [UInt8.ofNat (f / 256)] ++ be 1 f := by
    rw [show (2 : Nat) = 1 + 1 from rfl, be_cons]; simp
  unfold partB
  rw [e]
  simp only [List.append_assoc]
theorem seven_part (c f : Nat) (r m : List UInt8) (hf : f < 256) : numS 1 (takeS 7 (some (partB c f r ++ m))).2 = (f, some (r ++ m)) := by
  obtain ⟨x, hx, e⟩ := part_seven c f r hf
  rw [e, List.append_assoc, List.append_assoc]
  have e1 : takeS 7 (some (x ++ (be 1 f ++ (r ++ m)))) = (x, some (be 1 f ++ (r ++ m))) := takeS_front 7 x _ hx
  rw [e1]
  exact numS_be 1 f _ num1 (by omega)
theorem qtxt_put (b : Bool) (s : ByteArray) (r : List UInt8) (h : b = hasB s) (hs : s.size ≤ 255) : qtxt b (some (txtF s ++ r)) = (sb s, some r) := by
  subst h
  unfold qtxt txtF
  cases hb : hasB s with
  | true =>
    rw [if_pos rfl, if_pos rfl, List.append_assoc, ← sb_length]
    exact textS_be 1 255 (sb s) r txt1 (by rw [sb_length]; omega) (by rw [sb_length]; omega)
  | false =>
    rw [if_neg (by decide), if_neg (by decide), hasB_no hb]
    rfl
theorem qapp_put (t : Tree) (ht : appOK t) : qapp (mapB t) (appF t) = t := by
  unfold qapp appF
  cases hb : mapB t with
  | true =>
    have hc : checkT t = 0 := by
      rcases ht with ⟨_, hc⟩ | rfl
      · exact hc
      · exact absurd hb (by decide)
    rw [if_pos rfl, if_pos rfl]
    have := get_put hc []
    rw [List.append_nil] at this
    rw [this]
  | false =>
    rw [if_neg (by decide)]
    rcases ht with ⟨hk, _⟩ | rfl
    · unfold mapB at hb; simp [hk] at hb
    · rfl
theorem bit1 (d r k : Bool) : decide (flA d r k % 2 = 1) = d := by cases d <;> cases r <;> cases k <;> decide
theorem bit2 (d r k : Bool) : decide (flA d r k / 2 % 2 = 1) = r := by cases d <;> cases r <;> cases k <;> decide
theorem bit4 (d r k : Bool) : decide (flA d r k / 4 % 2 = 1) = k := by cases d <;> cases r <;> cases k <;> decide
theorem bitI (i m : Bool) : decide (flB i m % 2 = 1) = i := by cases i <;> cases m <;> decide
theorem bitM (i m : Bool) : decide (flB i m / 2 % 2 = 1) = m := by cases i <;> cases m <;> decide
theorem qdec_enc {p : PropP} (h : validPr p) : qdec (encPr p) = p := by
  obtain ⟨h1, h2, h3⟩ := h
  obtain ⟨key, dur, red, id, app⟩ := p
  simp only at h1 h2 h3
  have ha : fA ⟨key, dur, red, id, app⟩ < 8 := fA_lt _
  have hb : fB ⟨key, dur, red, id, app⟩ < 4 := fB_lt _
  have e4 := fun m => qtxt_put (decide (fA ⟨key, dur, red, id, app⟩ / 4 % 2 = 1)) key m (bit4 _ _ _) h1
  have d1 : decide (fA ⟨key, dur, red, id, app⟩ % 2 = 1) = dur := bit1 _ _ _
  have d2 : decide (fA ⟨key, dur, red, id, app⟩ / 2 % 2 = 1) = red := bit2 _ _ _
  by_cases hz : fB ⟨key, dur, red, id, app⟩ = 0
  · have e1 : numS 1 (takeS 7 (some (encPr ⟨key, dur, red, id, app⟩))).2 = (fA ⟨key, dur, red, id, app⟩, some (txtF key ++ [])) := by
      unfold encPr
      rw [if_pos hz]
      exact seven_part 1025 _ _ [] (by omega)
    obtain ⟨z1, z2⟩ := flB_zero hz
    have ei : id = ⟨#[]⟩ := hasB_no z1
    have eapp : app = prZ := by
      rcases h3 with ⟨hk, _⟩ | h3
      · unfold mapB at z2; simp [hk] at z2
      · exact h3
    unfold qdec
    simp only [e1, e4]
    rw [if_pos (show (leftB (some [])).length = 0 from rfl), d1, d2, str8_sb, ei, eapp]
  · have e1 : numS 1 (takeS 7 (some (encPr ⟨key, dur, red, id, app⟩))).2 = (fA ⟨key, dur, red, id, app⟩, some (txtF key ++ partB 1027 (fB ⟨key, dur, red, id, app⟩) (txtF id ++ appF app))) := by
      unfold encPr
      rw [if_neg hz]
      exact seven_part 1025 _ _ _ (by omega)
    have e2 : numS 1 (takeS 7 (some (partB 1027 (fB ⟨key, dur, red, id, app⟩) (txtF id ++ appF app)))).2 = (fB ⟨key, dur, red, id, app⟩, some (txtF id ++ appF app)) := by
      have := seven_part 1027 (fB ⟨key, dur, red, id, app⟩) (txtF id ++ appF app) [] (by omega)
      rwa [List.append_nil, List.append_nil] at this
    have e3 := qtxt_put (decide (fB ⟨key, dur, red, id, app⟩ % 2 = 1)) id (appF app) (bitI _ _) h2
    have e5 : qapp (decide (fB ⟨key, dur, red, id, app⟩ / 2 % 2 = 1)) (appF app) = app := by
      rw [show decide (fB ⟨key, dur, red, id, app⟩ / 2 % 2 = 1) = mapB app from bitM _ _]
      exact qapp_put app h3
    unfold qdec
    simp only [e1, e2, e3, e4]
    rw [if_neg (by simp only [leftB, partB_len]; omega)]
    simp only [leftB]
    rw [d1, d2, e5]
    simp only [str8_sb]
/-- What the document's Get tells is what Get tells. -/
theorem qget_eq (l : List UInt8) : (∀ h : validPr (qdec l) ∧ encPr (qdec l) = l, getPr l = some (qdec l)) ∧ (¬ (validPr (qdec l) ∧ encPr (qdec l) = l) → getPr l = none) := by
  refine ⟨fun h => ?_, fun h => ?_⟩
  · have := get_enc h.1
    rwa [h.2] at this
  · cases hg : getPr l with
    | none => rfl
    | some p =>
      obtain ⟨h1, h2⟩ := get_some hg
      exfalso
      apply h
      rw [← h2, qdec_enc h1]
      exact ⟨h1, rfl⟩

end Go.Proofs.YtpmafabphlejeaaGreat
