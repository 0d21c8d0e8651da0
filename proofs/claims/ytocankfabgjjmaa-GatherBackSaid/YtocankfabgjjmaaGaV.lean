/-
  Without the program: what a frame completes may be; a gatherer that is fed the frames of one assembly alone.
  Conditions: none.
-/
import Derived.Test.YtocankfabgjjmaaGaU
namespace Go.Proofs.Ytocankfabgjjmaa
open Go.RowKit
set_option linter.unusedVariables false
set_option linter.unusedSimpArgs false

theorem rises_map : ∀ (l m : List Sg) (x : Nat), l.map Sg.t = m.map Sg.t → risesD x l = risesD x m
  | [], [], _, _ => rfl
  | [], _ :: _, _, h => by simp at h
  | _ :: _, [], _, h => by simp at h
  | a :: l, b :: m, x, h => by
    simp only [List.map_cons, List.cons.injEq] at h
    simp only [risesD, h.1, rises_map l m b.t h.2]
theorem types_map (k : Nat) : ∀ (l m : List Sg), l.map Sg.t = m.map Sg.t → typesD k l = typesD k m
  | [], [], _ => rfl
  | [], _ :: _, h => by simp at h
  | _ :: _, [], h => by simp at h
  | a :: l, b :: m, h => by
    simp only [List.map_cons, List.cons.injEq] at h
    have he : l.isEmpty = m.isEmpty := by
      have := congrArg List.length h.2
      cases l <;> cases m <;> simp_all
    simp only [typesD, h.1, he, rises_map l m b.t h.2]
theorem rises_snoc (s n : Sg) (h : s.t < n.t ∧ n.t ≤ 3) : ∀ (l : List Sg) (x : Nat), risesD x (l ++ [s]) = true → risesD x (l ++ [s] ++ [n]) = true
  | [], x, h1 => by
    simp only [List.nil_append, List.cons_append, risesD, Bool.and_true, Bool.and_eq_true, decide_eq_true_eq] at h1 ⊢
    exact ⟨h1, h⟩
  | a :: l, x, h1 => by
    simp only [List.cons_append, risesD, Bool.and_eq_true] at h1 ⊢
    exact ⟨h1.1, rises_snoc s n h l a.t h1.2⟩
theorem types_snoc (s n : Sg) (h : s.t < n.t ∧ n.t ≤ 3) {k : Nat} (hk : k ≠ 0) : ∀ (l : List Sg), typesD k (l ++ [s]) = true → typesD k (l ++ [s] ++ [n]) = true
  | [], h1 => by
    simp only [List.nil_append, List.cons_append, typesD, if_neg hk, risesD, Bool.and_true, Bool.and_eq_true, decide_eq_true_eq] at h1 ⊢
    exact ⟨h1, h⟩
  | a :: l, h1 => by
    simp only [List.cons_append, typesD, if_neg hk, Bool.and_eq_true] at h1 ⊢
    exact ⟨h1.1, rises_snoc s n h l a.t h1.2⟩

/-- What is open is the beginning of what may be. -/
def Inv (k : Nat) (p : Pt) : Prop := ∃ (D : List Sg) (s : Sg), p.segs = fromsD 0 (D ++ [s]) ∧ p.bytes = catD (D ++ [s]) ∧ typesD k (D ++ [s]) = true ∧ s.t = p.head.t ∧ (p.head.b = true → p.whole = false) ∧ (k = 0 → p.head.b = true)

theorem inv_step {f : Fr} {o : Option Pt} (ho : ∀ p, o = some p → Inv f.k p) (hr : refusedD f o = 0) :
    (¬ (f.b = true ∧ f.d = true) → Inv f.k ((o.getD pt0).add f)) ∧ checkA f.k (wholeD ((o.getD pt0).add f).bytes ((o.getD pt0).add f).segs) = 0 := by
  obtain ⟨hc, hfit, hl⟩ := refused_zero hr
  obtain ⟨ht, _, _⟩ := checkF_zero hc
  have key : ∃ (D : List Sg) (s : Sg), ((o.getD pt0).add f).segs = fromsD 0 (D ++ [s]) ∧ ((o.getD pt0).add f).bytes = catD (D ++ [s]) ∧ typesD f.k (D ++ [s]) = true ∧ s.t = ((o.getD pt0).add f).head.t ∧ ((o.getD pt0).add f).head.b = f.b ∧ (f.k = 0 → f.b = true) := by
    cases o with
    | none =>
      simp only [fitsD, Bool.and_eq_true] at hfit
      obtain ⟨⟨⟨h1, h2⟩, h3⟩, h4⟩ := hfit
      refine ⟨[], ⟨f.t, f.p⟩, by simp [Pt.add, h2, pt0, fromsD], by simp [Pt.add, pt0, catD], ?_, by simp [Pt.add, h2], by simp [Pt.add, h2], fun hk => by simpa [hk] using h4⟩
      simp [typesD, h3, risesD]
    | some p =>
      obtain ⟨D, s, i1, i2, i3, i4, i5, i6⟩ := ho p rfl
      simp only [Option.getD_some]
      simp only [fitsD] at hfit
      by_cases hw : p.whole = false
      · rw [if_pos hw] at hfit
        simp only [Bool.and_eq_true, Bool.not_eq_true', beq_iff_eq] at hfit
        obtain ⟨⟨⟨h1, h2⟩, h3⟩, h4⟩ := hfit
        refine ⟨D, ⟨s.t, str8 (sb s.p ++ sb f.p)⟩, ?_, ?_, ?_, by simp [Pt.add, h1, i4], by simp [Pt.add, h1, h4], fun hk => by rw [h4]; exact i6 hk⟩
        · simp [Pt.add, h1, i1, fromsD_snoc]
        · simp [Pt.add, i2, catD_snoc, sb_str8]
        · rw [← i3]
          exact types_map _ _ _ (by simp)
      · rw [if_neg hw] at hfit
        simp only [Bool.and_eq_true, Bool.not_eq_true', decide_eq_true_eq] at hfit
        obtain ⟨⟨h1, h2⟩, h3⟩ := hfit
        have hb : p.head.b = false := by
          cases hb : p.head.b with
          | false => rfl
          | true => exact absurd (i5 hb) hw
        have hk : f.k ≠ 0 := fun hk => by rw [i6 hk] at hb; cases hb
        refine ⟨D ++ [s], ⟨f.t, f.p⟩, ?_, ?_, types_snoc s _ ⟨by show s.t < f.t; omega, ht⟩ hk D i3, by simp [Pt.add, h1], by simp [Pt.add, h1], fun h => absurd h hk⟩
        · rw [fromsD_snoc 0 (D ++ [s]), ← i1]
          simp [Pt.add, h1, ← catD_len, i2]
        · rw [catD_snoc (D ++ [s]), ← i2]
          simp [Pt.add]
  obtain ⟨D, s, i1, i2, i3, i4, i5, i6⟩ := key
  refine ⟨fun hnot => ⟨D, s, i1, i2, i3, i4, fun hb => ?_, fun hk => i5.trans (i6 hk)⟩, ?_⟩
  · rw [i5] at hb
    show f.d = false
    cases hd : f.d with
    | false => rfl
    | true => exact absurd ⟨hb, hd⟩ hnot
  · rw [i1, whole_froms _ (D ++ [s]) 0 (by rw [i2]; rfl)]
    have hsum : sumS (D ++ [s]) ≤ 16384 := by
      rw [← catD_len, ← i2]
      simp only [Pt.add, List.length_append, sb_length]
      omega
    exact if_pos ⟨i3, hsum⟩

/-- All that is open may go on. -/
def InvO (o : Option (List (Plc × Pt))) : Prop := ∀ M, o = some M → ∀ x ∈ M, Inv x.1.2 x.2

theorem invO_nil : InvO (some []) := fun M h x hx => by cases h; cases hx

theorem feedO_inv {o : Option (List (Plc × Pt))} (h : InvO o) (f : Fr) :
    InvO (feedO o f).2 ∧ ((feedO o f).1.is = false → (feedO o f).1.l = [] ∧ ((feedO o f).1.e ≠ 0 → (feedO o f).2 = none)) ∧
      ((feedO o f).1.is = true → (feedO o f).1.e = 0 ∧ (feedO o f).1.ch = f.ch ∧ (feedO o f).1.k = f.k ∧ checkA f.k (feedO o f).1.l = 0) := by
  cases o with
  | none => exact ⟨fun M h => (by cases h), fun _ => ⟨rfl, fun _ => rfl⟩, fun h => by cases h⟩
  | some M =>
    show InvO (feedM M f).2 ∧ ((feedM M f).1.is = false → (feedM M f).1.l = [] ∧ ((feedM M f).1.e ≠ 0 → (feedM M f).2 = none)) ∧
      ((feedM M f).1.is = true → (feedM M f).1.e = 0 ∧ (feedM M f).1.ch = f.ch ∧ (feedM M f).1.k = f.k ∧ checkA f.k (feedM M f).1.l = 0)
    have hM := h M rfl
    unfold feedM
    simp only
    by_cases hr : refusedD f (getM M f.plc) ≠ 0
    · rw [if_pos hr]
      exact ⟨fun M h => (by cases h), fun _ => ⟨rfl, fun _ => rfl⟩, fun h => by cases h⟩
    · rw [if_neg hr]
      have hr0 : refusedD f (getM M f.plc) = 0 := by omega
      obtain ⟨s1, s2⟩ := inv_step (fun p hp => hM _ (getM_mem hp)) hr0
      by_cases hd : f.b = true ∧ f.d = true
      · rw [if_pos hd]
        refine ⟨fun M' h' x hx => ?_, fun h => (by cases h), fun _ => ⟨rfl, rfl, rfl, s2⟩⟩
        cases h'
        exact hM x (delM_sub.subset hx)
      · rw [if_neg hd]
        refine ⟨fun M' h' x hx => ?_, fun _ => ⟨rfl, fun h => absurd rfl h⟩, fun h => by cases h⟩
        cases h'
        rcases mem_putM hx with rfl | ⟨hx, _⟩
        · exact s1 hd
        · exact hM x hx

/-- What is open where frames of one place alone came. -/
def oneM (q : Plc) : Option Pt → List (Plc × Pt)
  | none => []
  | some p => [(q, p)]
theorem one_get (q : Plc) (o : Option Pt) : getM (oneM q o) q = o := by cases o <;> simp [oneM, getM]
theorem one_put (q : Plc) (o : Option Pt) (p : Pt) : putM (oneM q o) q p = oneM q (some p) := by cases o <;> simp [oneM, putM]
theorem one_del (q : Plc) (o : Option Pt) : delM (oneM q o) q = [] := by cases o <;> simp [oneM, delM]

theorem run_feed {ch k : Nat} {o : Option Pt} {f : Fr} {r : List Fr} {A : List Sg} (hch : f.ch = ch) (hk : f.k = k) (h : runAll o (f :: r) A) :
    (r = [] → feedM (oneM (ch, k) o) f = (⟨ch, k, A, true, 0⟩, some [])) ∧ (r ≠ [] → ∃ p, feedM (oneM (ch, k) o) f = (ans0 0, some (oneM (ch, k) (some p))) ∧ runAll (some p) r A) := by
  have hq : f.plc = (ch, k) := by rw [← hch, ← hk]; rfl
  cases r with
  | nil =>
    refine ⟨fun _ => ?_, fun h => absurd rfl h⟩
    obtain ⟨h1, h2, h3, h4⟩ := h
    unfold feedM
    simp only [hq, one_get]
    rw [if_neg (by omega), if_pos ⟨h2, h3⟩, one_del, h4, hch, hk]
  | cons g r =>
    refine ⟨fun h => (by cases h), fun _ => ⟨(o.getD pt0).add f, ?_, h.2.2⟩⟩
    unfold feedM
    simp only [hq, one_get]
    rw [if_neg (by have := h.1; omega), if_neg h.2.1, one_put]

theorem run_ne {o : Option Pt} {l : List Fr} {A : List Sg} (h : runAll o l A) : l ≠ [] := by rintro rfl; exact h

/-- The frames of an assembly bear its place, and are as frames are. -/
theorem pieceF_of {a b : Bool} {t k ch : Nat} : ∀ (xs : List (List UInt8)) (c : Bool), ∀ f ∈ pieceF a b t k ch c xs, f.t = t ∧ f.k = k ∧ f.ch = ch ∧ ∃ x ∈ xs, f.p = str8 x
  | [], _, f, h => by cases h
  | [x], c, f, h => by
    simp only [pieceF, List.mem_singleton] at h
    subst h
    exact ⟨rfl, rfl, rfl, x, by simp, rfl⟩
  | x :: y :: r, c, f, h => by
    simp only [pieceF, List.mem_cons] at h
    rcases h with rfl | h
    · exact ⟨rfl, rfl, rfl, x, by simp, rfl⟩
    · obtain ⟨h1, h2, h3, z, hz, h4⟩ := pieceF_of (y :: r) false f h
      exact ⟨h1, h2, h3, z, by simp at hz ⊢; exact .inr hz, h4⟩
theorem framesD_of {n k ch : Nat} (hn : 1 ≤ n) : ∀ (l : List Sg) (a : Bool), ∀ f ∈ framesD n k ch a l, f.k = k ∧ f.ch = ch ∧ f.p.size ≤ n ∧ ∃ s ∈ l, f.t = s.t
  | [], a, f, h => by cases h
  | s :: r, a, f, h => by
    simp only [framesD, List.mem_append] at h
    rcases h with h | h
    · obtain ⟨h1, h2, h3, x, hx, h4⟩ := pieceF_of _ _ f h
      refine ⟨h2, h3, ?_, s, by simp, h1⟩
      rw [h4, str8_sz]
      exact (cutP_flat hn _ _ (Nat.le_refl _)).2 x hx
    · obtain ⟨h1, h2, h3, q, hq, h4⟩ := framesD_of hn r false f h
      exact ⟨h1, h2, h3, q, List.mem_cons_of_mem _ hq, h4⟩
theorem rises_le : ∀ (l : List Sg) (x : Nat), risesD x l = true → ∀ s ∈ l, s.t ≤ 3
  | [], _, _, _, h => by cases h
  | a :: l, x, h, s, hs => by
    simp only [risesD, Bool.and_eq_true, decide_eq_true_eq] at h
    rcases List.mem_cons.1 hs with rfl | hs
    · exact h.1.2
    · exact rises_le l a.t h.2 s hs
theorem types_le {k : Nat} {l : List Sg} (h : typesD k l = true) : k ≤ 1 ∧ ∀ s ∈ l, s.t ≤ 3 := by
  cases l with
  | nil => cases h
  | cons a r =>
    simp only [typesD, Bool.and_eq_true] at h
    obtain ⟨h1, h2⟩ := h
    unfold firstD at h1
    split at h1
    · rename_i hk
      rw [if_pos hk] at h2
      simp at h1 h2
      subst h2
      refine ⟨by omega, fun s hs => ?_⟩
      simp at hs
      subst hs
      omega
    · rename_i hk
      rw [if_neg hk] at h2
      split at h1
      · simp at h1
        refine ⟨by omega, fun s hs => ?_⟩
        rcases List.mem_cons.1 hs with rfl | hs
        · omega
        · exact rises_le r a.t h2 s hs
      · cases h1
theorem frames_ok {n k ch : Nat} {l : List Sg} (hn : 1 ≤ n) (hn2 : n ≤ 4084) (hch : ch < 65536) (h : checkA k l = 0) : ∀ f ∈ framesD n k ch true l, f.ok ∧ f.k = k ∧ f.ch = ch := fun f hf => by
  obtain ⟨h1, h2, h3, s, hs, h4⟩ := framesD_of hn l true f hf
  obtain ⟨h5, h6⟩ := types_le (checkA_zero h).1
  have := h6 s hs
  exact ⟨⟨by omega, by omega, by omega, by omega⟩, h1, h2⟩
theorem segs_ok {k : Nat} {l : List Sg} (h : checkA k l = 0) : l.length ≤ 3 ∧ ∀ s ∈ l, s.p.size ≤ 16384 := by
  obtain ⟨h1, h2⟩ := checkA_zero h
  refine ⟨types_three h1, fun s hs => ?_⟩
  have : ∀ (l : List Sg), s ∈ l → s.p.size ≤ sumS l := by
    intro l
    induction l with
    | nil => intro h; cases h
    | cons a r ih =>
      intro h
      simp only [sumS]
      rcases List.mem_cons.1 h with rfl | h
      · omega
      · have := ih h
        omega
  have := this l hs
  omega

end Go.Proofs.Ytocankfabgjjmaa
