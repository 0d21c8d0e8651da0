/-
  Without the program: the frames of an assembly that may be, fed one behind the other, make it, at the last one; and what a frame completes may be.
  Conditions: none.
-/
import Derived.Test.YtocankfabgjjmaaGaL
namespace Go.Proofs.Ytocankfabgjjmaa
open Go.RowKit
set_option linter.unusedVariables false
set_option linter.unusedSimpArgs false

/-- These frames are taken, one behind the other, from o on, and the last one, no other, completes segments A. -/
def runAll : Option Pt → List Fr → List Sg → Prop
  | _, [], _ => False
  | o, [f], A => refusedD f o = 0 ∧ f.b = true ∧ f.d = true ∧ wholeD ((o.getD pt0).add f).bytes ((o.getD pt0).add f).segs = A
  | o, f :: g :: r, A => refusedD f o = 0 ∧ ¬ (f.b = true ∧ f.d = true) ∧ runAll (some ((o.getD pt0).add f)) (g :: r) A

theorem runAll_cons {o : Option Pt} {f : Fr} {r : List Fr} {A : List Sg} (hr : r ≠ []) (h1 : refusedD f o = 0) (h2 : ¬ (f.b = true ∧ f.d = true)) (h3 : runAll (some ((o.getD pt0).add f)) r A) : runAll o (f :: r) A := by
  cases r with
  | nil => exact absurd rfl hr
  | cons g r => exact ⟨h1, h2, h3⟩

theorem refused_ok {f : Fr} {o : Option Pt} (h1 : f.t ≤ 3) (h2 : f.k ≤ 15) (h3 : f.p.size ≤ 4084) (h4 : fitsD f o = true) (h5 : (o.getD pt0).bytes.length + f.p.size ≤ 16384) : refusedD f o = 0 := by
  unfold refusedD checkF
  rw [if_neg (by rw [if_neg (by omega)]; omega), if_neg (by simp [h4]), if_neg (by omega)]

def g_lenL (xs : List (List UInt8)) : Nat := xs.flatten.length
theorem lenL_cons (x : List UInt8) (xs : List (List UInt8)) : g_lenL (x :: xs) = x.length + g_lenL xs := by simp [g_lenL]

theorem str8_sz (x : List UInt8) : (str8 x).size = x.length := str8_size x

/-- Fits does not look at End and the payload. -/
theorem fits_same (a b c d d' : Bool) (t k ch : Nat) (p p' : ByteArray) (o : Option Pt) : fitsD ⟨a, b, c, d, t, k, ch, p⟩ o = fitsD ⟨a, b, c, d', t, k, ch, p'⟩ o := by cases o <;> rfl

theorem add_head (p : Pt) (a b c d : Bool) (t k ch : Nat) (x : ByteArray) (h : c = false → p.head.t = t ∧ p.head.a = a ∧ p.head.b = b) :
    (p.add ⟨a, b, c, d, t, k, ch, x⟩).head.t = t ∧ (p.add ⟨a, b, c, d, t, k, ch, x⟩).head.a = a ∧ (p.add ⟨a, b, c, d, t, k, ch, x⟩).head.b = b := by
  cases c with
  | true => simp [Pt.add]
  | false => simpa [Pt.add] using h rfl

/-- The pieces of a segment that is not the last one. -/
theorem run_pieces (a : Bool) (t k ch : Nat) (rest : List Fr) (A : List Sg) (hrest : rest ≠ []) (ht : t ≤ 3) (hk : k ≤ 15) : ∀ (xs : List (List UInt8)) (c : Bool) (o : Option Pt), xs ≠ [] →
    (∀ x ∈ xs, x.length ≤ 4084) → (o.getD pt0).bytes.length + g_lenL xs ≤ 16384 → (∀ d p, fitsD ⟨a, false, c, d, t, k, ch, p⟩ o = true) → (c = false → (o.getD pt0).head.t = t ∧ (o.getD pt0).head.a = a ∧ (o.getD pt0).head.b = false) →
    (∀ P : Pt, P.segs = (o.getD pt0).segs ++ (if c = true then [(t, (o.getD pt0).bytes.length)] else []) → P.bytes = (o.getD pt0).bytes ++ xs.flatten → P.whole = true → P.head.t = t → P.head.b = false → runAll (some P) rest A) →
    runAll o (pieceF a false t k ch c xs ++ rest) A
  | [], _, _, h, _, _, _, _, _ => absurd rfl h
  | [x], c, o, _, hx, hl, hf, hh, hend => by
    rw [lenL_cons] at hl
    have hxl := hx x (by simp)
    refine runAll_cons hrest (refused_ok ht hk (by show (str8 x).size ≤ _; rw [str8_sz]; exact hxl) (hf _ _) (by show _ + (str8 x).size ≤ _; rw [str8_sz]; omega)) (by simp) ?_
    obtain ⟨h1, h2, h3⟩ := add_head (o.getD pt0) a false c true t k ch (str8 x) hh
    refine hend _ ?_ ?_ rfl h1 h3
    · cases c <;> simp [Pt.add]
    · simp [Pt.add, sb_str8]
  | x :: y :: r, c, o, _, hx, hl, hf, hh, hend => by
    rw [lenL_cons] at hl
    have hxl := hx x (by simp)
    obtain ⟨h1, h2, h3⟩ := add_head (o.getD pt0) a false c false t k ch (str8 x) hh
    have hb : ((o.getD pt0).add ⟨a, false, c, false, t, k, ch, str8 x⟩).bytes = (o.getD pt0).bytes ++ x := by simp [Pt.add, sb_str8]
    refine runAll_cons (by intro h; exact hrest (List.append_eq_nil_iff.1 h).2) (refused_ok ht hk (by show (str8 x).size ≤ _; rw [str8_sz]; exact hxl) (hf _ _) (by show _ + (str8 x).size ≤ _; rw [str8_sz]; omega)) (by simp) ?_
    refine run_pieces a t k ch rest A hrest ht hk (y :: r) false _ (by simp) (fun z hz => hx z (by simp at hz ⊢; exact .inr hz)) ?_ (fun d p => ?_) (fun _ => ⟨h1, h2, h3⟩) fun P hs hb' hw ht' hb2 => ?_
    · simp only [Option.getD_some, hb, List.length_append]; omega
    · simp only [fitsD]
      have hw : ((o.getD pt0).add ⟨a, false, c, false, t, k, ch, str8 x⟩).whole = false := rfl
      simp [hw, h1, h2, h3]
    · refine hend P ?_ ?_ hw ht' hb2
      · rw [hs]
        cases c <;> simp [Pt.add]
      · rw [hb']
        simp only [Option.getD_some, hb]
        simp

/-- The pieces of the last segment. -/
theorem run_last (a : Bool) (t k ch : Nat) (A : List Sg) (ht : t ≤ 3) (hk : k ≤ 15) : ∀ (xs : List (List UInt8)) (c : Bool) (o : Option Pt), xs ≠ [] →
    (∀ x ∈ xs, x.length ≤ 4084) → (o.getD pt0).bytes.length + g_lenL xs ≤ 16384 → (∀ d p, fitsD ⟨a, true, c, d, t, k, ch, p⟩ o = true) → (c = false → (o.getD pt0).head.t = t ∧ (o.getD pt0).head.a = a ∧ (o.getD pt0).head.b = true) →
    wholeD ((o.getD pt0).bytes ++ xs.flatten) ((o.getD pt0).segs ++ (if c = true then [(t, (o.getD pt0).bytes.length)] else [])) = A →
    runAll o (pieceF a true t k ch c xs) A
  | [], _, _, h, _, _, _, _, _ => absurd rfl h
  | [x], c, o, _, hx, hl, hf, hh, hend => by
    rw [lenL_cons] at hl
    have hxl := hx x (by simp)
    refine ⟨refused_ok ht hk (by show (str8 x).size ≤ _; rw [str8_sz]; exact hxl) (hf _ _) (by show _ + (str8 x).size ≤ _; rw [str8_sz]; omega), rfl, rfl, ?_⟩
    rw [← hend]
    cases c <;> simp [Pt.add, sb_str8]
  | x :: y :: r, c, o, _, hx, hl, hf, hh, hend => by
    rw [lenL_cons] at hl
    have hxl := hx x (by simp)
    obtain ⟨h1, h2, h3⟩ := add_head (o.getD pt0) a true c false t k ch (str8 x) hh
    have hb : ((o.getD pt0).add ⟨a, true, c, false, t, k, ch, str8 x⟩).bytes = (o.getD pt0).bytes ++ x := by simp [Pt.add, sb_str8]
    have hne : pieceF a true t k ch false (y :: r) ≠ [] := by cases r <;> simp [pieceF]
    refine runAll_cons hne (refused_ok ht hk (by show (str8 x).size ≤ _; rw [str8_sz]; exact hxl) (hf _ _) (by show _ + (str8 x).size ≤ _; rw [str8_sz]; omega)) (by simp) ?_
    refine run_last a t k ch A ht hk (y :: r) false _ (by simp) (fun z hz => hx z (by simp at hz ⊢; exact .inr hz)) ?_ (fun d p => ?_) (fun _ => ⟨h1, h2, h3⟩) ?_
    · simp only [Option.getD_some, hb, List.length_append]; omega
    · simp only [fitsD]
      have hw : ((o.getD pt0).add ⟨a, true, c, false, t, k, ch, str8 x⟩).whole = false := rfl
      simp [hw, h1, h2, h3]
    · rw [← hend]
      simp only [Option.getD_some, hb]
      cases c <;> simp [Pt.add]

theorem cutP_flat {n : Nat} (hn : 1 ≤ n) : ∀ (m : Nat) (l : List UInt8), l.length ≤ m → (cutP n l).flatten = l ∧ ∀ x ∈ cutP n l, x.length ≤ n
  | 0, l, h => by rw [cutP_end (by omega)]; simp; omega
  | m + 1, l, h => by
    by_cases h2 : l.length ≤ n
    · rw [cutP_end h2]; simp; exact h2
    · rw [cutP_more hn (by omega)]
      obtain ⟨h3, h4⟩ := cutP_flat hn m (l.drop n) (by rw [List.length_drop]; omega)
      refine ⟨by rw [List.flatten_cons, h3, List.take_append_drop], fun x hx => ?_⟩
      rcases List.mem_cons.1 hx with rfl | hx
      · simp; omega
      · exact h4 x hx

/-- Where the segments begin, and all their bytes. -/
def fromsD (i : Nat) : List Sg → List (Nat × Nat)
  | [] => []
  | s :: r => (s.t, i) :: fromsD (i + s.p.size) r
def catD : List Sg → List UInt8
  | [] => []
  | s :: r => sb s.p ++ catD r
theorem catD_len : ∀ l : List Sg, (catD l).length = sumS l
  | [] => rfl
  | s :: r => by simp [catD, sumS, sb_length, catD_len r]
theorem catD_snoc : ∀ (l : List Sg) (s : Sg), catD (l ++ [s]) = catD l ++ sb s.p
  | [], s => by simp [catD]
  | x :: r, s => by simp [catD, catD_snoc r s]
theorem fromsD_snoc : ∀ (i : Nat) (l : List Sg) (s : Sg), fromsD i (l ++ [s]) = fromsD i l ++ [(s.t, i + sumS l)]
  | i, [], s => by simp [fromsD, sumS]
  | i, x :: r, s => by simp [fromsD, fromsD_snoc (i + x.p.size) r s, sumS]; omega
theorem whole_froms (bytes : List UInt8) : ∀ (S : List Sg) (i : Nat), bytes.drop i = catD S → wholeD bytes (fromsD i S) = S
  | [], _, _ => rfl
  | [s], i, h => by
    simp only [fromsD, wholeD, h, catD, List.append_nil, str8_sb]
  | s :: q :: r, i, h => by
    have h1 : bytes.drop (i + s.p.size) = catD (q :: r) := by
      rw [← List.drop_drop, h]
      simp only [catD]
      rw [List.drop_left' (sb_length _)]
    have h2 := whole_froms bytes (q :: r) (i + s.p.size) h1
    have h3 : (bytes.take (i + s.p.size)).drop i = sb s.p := by
      rw [List.drop_take, Nat.add_sub_cancel_left, h]
      simp only [catD]
      rw [List.take_left' (sb_length _)]
    simp only [fromsD, wholeD] at h2 ⊢
    rw [h3, str8_sb, h2]

/-- What is open behind the segments D that are whole. -/
def Behind (D : List Sg) : Option Pt → Prop
  | none => D = []
  | some P => D ≠ [] ∧ P.segs = fromsD 0 D ∧ P.bytes = catD D ∧ P.whole = true

theorem behind_get {D : List Sg} {o : Option Pt} (h : Behind D o) : (o.getD pt0).segs = fromsD 0 D ∧ (o.getD pt0).bytes = catD D := by
  cases o with
  | none => obtain rfl : D = [] := h; exact ⟨rfl, rfl⟩
  | some P => exact ⟨h.2.1, h.2.2.1⟩

theorem run_frames {n : Nat} (hn : 1 ≤ n) (hn2 : n ≤ 4084) (k ch : Nat) (hk : k ≤ 15) : ∀ (R D : List Sg) (o : Option Pt), R ≠ [] → Behind D o → sumS D + sumS R ≤ 16384 →
    (match o with | none => typesD k R = true | some P => k ≠ 0 ∧ risesD P.head.t R = true) → runAll o (framesD n k ch (D.isEmpty) R) (D ++ R)
  | [], _, _, h, _, _, _ => absurd rfl h
  | s :: R', D, o, _, hb, hsum, hty => by
    obtain ⟨hg1, hg2⟩ := behind_get hb
    obtain ⟨hfl, hxl⟩ := cutP_flat hn _ (sb s.p) (Nat.le_refl _)
    simp only [sumS] at hsum
    have hsum2 : (o.getD pt0).bytes.length + g_lenL (cutP n (sb s.p)) ≤ 16384 := by
      rw [hg2, catD_len, g_lenL, hfl, sb_length]; omega
    have hx4 : ∀ x ∈ cutP n (sb s.p), x.length ≤ 4084 := fun x hx => Nat.le_trans (hxl x hx) hn2
    have hne := cutP_ne n (sb s.p)
    have hde : D.isEmpty = o.isNone := by
      cases o with
      | none => obtain rfl : D = [] := hb; rfl
      | some P => have h := hb.1; cases D <;> simp_all
    -- the type, and that it fits
    have hfit : s.t ≤ 3 ∧ ∀ d p, fitsD ⟨D.isEmpty, R'.isEmpty, true, d, s.t, k, ch, p⟩ o = true := by
      cases o with
      | none =>
        simp only [typesD, Bool.and_eq_true] at hty
        obtain ⟨h1, h2⟩ := hty
        have h3 : s.t ≤ 3 := by
          unfold firstD at h1
          split at h1
          · simp at h1; omega
          · split at h1
            · simp at h1; omega
            · cases h1
        refine ⟨h3, fun d p => ?_⟩
        rw [hde]
        simp only [fitsD, h1, Option.isNone_none, Bool.true_and, Bool.and_true]
        by_cases hk0 : k = 0
        · rw [if_pos hk0] at h2
          simp [h2]
        · simp [hk0]
      | some P =>
        obtain ⟨hk0, h2⟩ := hty
        simp only [risesD, Bool.and_eq_true, decide_eq_true_eq] at h2
        refine ⟨h2.1.2, fun d p => ?_⟩
        rw [hde]
        have hw := hb.2.2.2
        simp [fitsD, hw, h2.1.1]
    obtain ⟨ht, hfit⟩ := hfit
    simp only [framesD, segF]
    cases R' with
    | nil =>
      simp only [framesD, List.append_nil, List.isEmpty_nil] at hfit ⊢
      refine run_last _ _ _ _ _ ht hk _ true o hne hx4 hsum2 hfit (fun h => by cases h) ?_
      rw [hg1, hg2, hfl, if_pos rfl, catD_len]
      have e1 := fromsD_snoc 0 D s
      rw [Nat.zero_add] at e1
      rw [← e1, ← catD_snoc]
      exact whole_froms _ _ 0 rfl
    | cons q R2 =>
      simp only [List.isEmpty_cons] at hfit ⊢
      refine run_pieces _ _ _ _ _ _ ?_ ht hk _ true o hne hx4 hsum2 hfit (fun h => by cases h) fun P hs hb' hw ht' hb2 => ?_
      · simp only [framesD, segF]
        intro h
        have := congrArg List.length h
        rw [List.length_append, pieceF_len] at this
        have hc := cutP_ne n (sb q.p)
        cases hq : cutP n (sb q.p) with
        | nil => exact hc hq
        | cons y z => rw [hq] at this; simp at this
      · have hB : Behind (D ++ [s]) (some P) := by
          refine ⟨by simp, ?_, ?_, hw⟩
          · rw [hs, hg1, hg2, if_pos rfl, catD_len, fromsD_snoc, Nat.zero_add]
          · rw [hb', hg2, hfl, catD_snoc]
        have hsD : sumS (D ++ [s]) = sumS D + s.p.size := by rw [← catD_len, catD_snoc, List.length_append, catD_len, sb_length]
        have := run_frames hn hn2 k ch hk (q :: R2) (D ++ [s]) (some P) (by simp) hB (by rw [hsD]; omega) (by
          simp only
          rw [ht']
          cases o with
          | none =>
            simp only [typesD, Bool.and_eq_true] at hty
            obtain ⟨h1, h2⟩ := hty
            by_cases hk0 : k = 0
            · rw [if_pos hk0] at h2
              simp at h2
            · rw [if_neg hk0] at h2
              exact ⟨hk0, h2⟩
          | some P0 =>
            obtain ⟨hk0, h2⟩ := hty
            simp only [risesD, Bool.and_eq_true] at h2
            exact ⟨hk0, by simp only [risesD, Bool.and_eq_true]; exact h2.2⟩)
        have e : (D ++ [s]).isEmpty = false := by simp
        rw [e] at this
        simpa using this

/-- The frames of an assembly that may be. -/
theorem run_cut {n : Nat} (hn : 1 ≤ n) (hn2 : n ≤ 4084) {k : Nat} (ch : Nat) {l : List Sg} (h : checkA k l = 0) : runAll none (framesD n k ch true l) l := by
  obtain ⟨ht, hs⟩ := checkA_zero h
  have hne : l ≠ [] := by rintro rfl; cases ht
  have hk : k ≤ 15 := by
    cases l with
    | nil => exact absurd rfl hne
    | cons s r =>
      simp only [typesD, Bool.and_eq_true] at ht
      have := ht.1
      unfold firstD at this
      split at this
      · omega
      · split at this
        · omega
        · cases this
  have := run_frames hn hn2 k ch hk l [] none hne rfl (by simp [sumS]; exact hs) ht
  simpa using this

end Go.Proofs.Ytocankfabgjjmaa
