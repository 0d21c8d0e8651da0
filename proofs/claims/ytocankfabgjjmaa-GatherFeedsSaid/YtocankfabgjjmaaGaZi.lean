/-
  The document's own Feed of a gatherer, dead or alive, beside ours.
  Conditions: none but sizes.
-/
import Derived.Test.YtocankfabgjjmaaGaZh
import Derived.Test.YtocankfabgjjmaaGaZb
namespace Go.Proofs.Ytocankfabgjjmaa
open Go.RowKit
set_option linter.unusedVariables false
set_option linter.unusedSimpArgs false

/-- The first frame that is open at a place begins a segment. -/
def HeadC (L : List Fr) : Prop := ∀ q x, (atQ L q).head? = some x → x.c = true
theorem HeadC.nil : HeadC [] := fun q x h => by simp [atQ] at h
theorem fits_nil {f : Fr} (h : fitsQ [] f = true) : f.c = true := by
  unfold fitsQ at h
  split at h
  · cases h
  · simp only [List.getLast?_nil, Bool.and_eq_true] at h
    exact h.1.1.2
theorem refusedQ_zero {l : List Fr} {f : Fr} (h : refusedQ l f = 0) : f.p.size ≤ 4084 ∧ fitsQ l f = true ∧ f.p.size + payQ l ≤ 16384 := by
  unfold refusedQ at h
  split at h
  · exact absurd h (by decide)
  · rename_i h1
    split at h
    · exact absurd h (by decide)
    · rename_i h2
      split at h
      · exact absurd h (by decide)
      · rename_i h3
        refine ⟨?_, by simpa using h2, by omega⟩
        have h1 : checkF f = 0 := by simpa using h1
        unfold checkF at h1
        split at h1
        · exact absurd h1 (by decide)
        · omega
theorem HeadC.add {L : List Fr} (h : HeadC L) {f : Fr} (hf : fitsQ (atQ L f.plc) f = true) : HeadC (L ++ [f]) := by
  intro q x hx
  rw [atQ_append] at hx
  by_cases hq : f.plc = q
  · rw [if_pos hq] at hx
    cases hl : atQ L q with
    | nil =>
      rw [hl] at hx
      rw [hq, hl] at hf
      simp only [List.nil_append, List.head?_cons, Option.some.injEq] at hx
      rw [← hx]
      exact fits_nil hf
    | cons y r =>
      rw [hl] at hx
      exact h q x (by rw [hl]; simpa using hx)
  · rw [if_neg hq, List.append_nil] at hx
    exact h q x hx
theorem HeadC.del {L : List Fr} (h : HeadC L) (p : Plc) : HeadC (L.filter fun x => decide (x.plc ≠ p)) := by
  intro q x hx
  rw [atQ_del] at hx
  by_cases hq : q = p
  · rw [if_pos hq] at hx
    cases hx
  · rw [if_neg hq] at hx
    exact h q x hx
theorem step_pos {A : List Sg} (f : Fr) (h : 0 < A.length) : 0 < (stepQ A f).length := by
  unfold stepQ
  split
  · simp
  · cases hg : A.getLast? with
    | none =>
      rw [List.getLast?_eq_none_iff] at hg
      rw [hg] at h
      exact absurd h (by simp)
    | some s => simp
theorem segs_pos : ∀ (l : List Fr) (A : List Sg), 0 < A.length → 0 < (l.foldl stepQ A).length
  | [], _, h => h
  | f :: r, A, h => segs_pos r _ (step_pos f h)
theorem segs_head {M : List Fr} (h : ∀ x, M.head? = some x → x.c = true) (j : Nat) (hj : j < M.length) (hc : M[j].c = false) : 0 < (segsQ (M.take j)).length := by
  cases M with
  | nil => exact absurd hj (by simp)
  | cons y r =>
    have hy := h y rfl
    cases j with
    | zero =>
      simp only [List.getElem_cons_zero] at hc
      rw [hy] at hc
      cases hc
    | succ k =>
      rw [List.take_succ_cons]
      unfold segsQ
      rw [List.foldl_cons]
      apply segs_pos
      unfold stepQ
      rw [if_pos hy]
      simp

/-- The document's gatherer as it lies in memory, and its blocks. -/
def QW (w : World) (B gb : Nat) (o : Option (List Fr)) (F : Nat → Prop) : Prop :=
  match o with
  | none => w.heap[gb]? = some (.cells #[.slice none 0 0, .bool true] 27 (0, 0)) ∧ gb < B ∧ F = fun k => k = gb
  | some L => ∃ v, w.heap[gb]? = some (.cells #[v, .bool false] 27 (0, 0)) ∧ OwnG frC 30 w B v L ∧ gb < B ∧ (∀ x ∈ L, x.p.size ≤ 4084) ∧ F = fun k => k = gb ∨ v.ownBlock = some k
theorem QW.foot {w : World} {B gb : Nat} {o : Option (List Fr)} {F : Nat → Prop} (h : QW w B gb o F) : ∀ k, F k → k < w.heap.size := by
  cases o with
  | none =>
    obtain ⟨h1, h2, rfl⟩ := h
    rintro k rfl
    exact (Array.getElem?_eq_some_iff.1 h1).1
  | some L =>
    obtain ⟨v, h1, h2, h3, _, rfl⟩ := h
    rintro k (rfl | hk)
    · exact (Array.getElem?_eq_some_iff.1 h1).1
    · exact (h2.block k hk).2
theorem QW.keep {w w' : World} {B gb : Nat} {o : Option (List Fr)} {F : Nat → Prop} (h : QW w B gb o F) (hk : ∀ k, F k → w'.heap[k]? = w.heap[k]?) : QW w' B gb o F := by
  cases o with
  | none =>
    obtain ⟨h1, h2, rfl⟩ := h
    exact ⟨(hk gb rfl).trans h1, h2, rfl⟩
  | some L =>
    obtain ⟨v, h1, h2, h3, h4, rfl⟩ := h
    exact ⟨v, (hk gb (.inl rfl)).trans h1, h2.keep fun g hg => hk g (.inr hg), h3, h4, rfl⟩
def feedQO (o : Option (List Fr)) (f : Fr) : Ans × Option (List Fr) := match o with | none => (ans0 9, none) | some L => feedQ L f
structure RelB (o : Option (List (Plc × Pt))) (q : Option (List Fr)) : Prop where
  rel : RelG o q
  head : ∀ L, q = some L → HeadC L
theorem RelB.nil : RelB (some []) (some []) := ⟨RelQ.nil, fun L h => by cases h; exact HeadC.nil⟩
theorem RelB.feed {o : Option (List (Plc × Pt))} {q : Option (List Fr)} (h : RelB o q) (f : Fr) : (feedO o f).1 = (feedQO q f).1 ∧ RelB (feedO o f).2 (feedQO q f).2 := by
  obtain ⟨h1, h2⟩ := h
  cases q with
  | none =>
    cases o with
    | none => exact ⟨rfl, trivial, fun L h => by cases h⟩
    | some M => exact h1.elim
  | some L =>
    cases o with
    | none => exact h1.elim
    | some M =>
      obtain ⟨e1, e2⟩ := feed_eq h1 f
      refine ⟨e1, e2, fun L' hL => ?_⟩
      have hh := h2 L rfl
      change (feedQ L f).2 = some L' at hL
      unfold feedQ at hL
      split at hL
      · cases hL
      · rename_i h0
        have h0 : refusedQ (atQ L f.plc) f = 0 := by simpa using h0
        split at hL
        · cases hL
          exact hh.del _
        · cases hL
          exact hh.add (refusedQ_zero h0).2.1
theorem RelB.opened {o : Option (List (Plc × Pt))} {q : Option (List Fr)} (h : RelB o q) : openN o = (distQ [] ((q.getD []).map Fr.plc)).length := by
  obtain ⟨h1, _⟩ := h
  cases q with
  | none =>
    cases o with
    | none => rfl
    | some M => exact h1.elim
  | some L =>
    cases o with
    | none => exact h1.elim
    | some M => exact (open_eq h1).symm
theorem feedQO_len (q : Option (List Fr)) (f : Fr) : ((feedQO q f).2.getD []).length ≤ (q.getD []).length + 1 := by
  cases q with
  | none => simp [feedQO]
  | some L =>
    simp only [feedQO, feedQ]
    split
    · simp
    · split
      · simp only [Option.getD_some]
        have := List.length_filter_le (fun x : Fr => decide (x.plc ≠ f.plc)) L
        omega
      · simp

theorem feedQO_segs (q : Option (List Fr)) (f : Fr) : (feedQO q f).1.l.length ≤ (q.getD []).length + 1 := by
  cases q with
  | none => simp [feedQO, ans0]
  | some L =>
    simp only [feedQO, feedQ]
    split
    · simp [ans0]
    · split
      · simp only [Option.getD_some]
        have h1 := segs_len (atQ L f.plc ++ [f]) []
        change (segsQ _).length ≤ _ at h1
        have h2 : (atQ L f.plc).length ≤ L.length := List.length_filter_le _ _
        simp only [List.length_append, List.length_nil, List.length_singleton] at h1
        omega
      · simp [ans0]

/-- What the document's Feed tells. -/
def FeedQSaid (w : World) (B gb : Nat) (F : Nat → Prop) (r : Ans × Option (List Fr)) (e : Ending) (w' : World) : Prop :=
  ∃ v F', e = .returned (ansV r.1 v) ∧ OwnG sgC 46 w' w.heap.size v r.1.l ∧ QW w' B gb r.2 F' ∧ (∀ k, F' k → F k ∨ w.heap.size ≤ k) ∧ Moved F w w'
theorem qfeed_any (f : Fr) (w : World) (B gb : Nat) (q : Option (List Fr)) (F : Nat → Prop) (hf : f.ok) (hB : B ≤ w.heap.size) (h : QW w B gb q F) (hh : ∀ L, q = some L → HeadC L) (hl : (q.getD []).length ≤ 1099511627776) :
    Calls Try.prog 8 #[.pointer (some ⟨gb, 0, none⟩), .agg f.vs.toArray] w (FeedQSaid w B gb F (feedQO q f)) := by
  have hfo := h.foot
  cases q with
  | none =>
    have h0 := h
    obtain ⟨h1, h2, rfl⟩ := h
    refine (qfeed_dead f gb _ w h1).mono ?_
    rintro e w' ⟨rfl, hb⟩
    exact ⟨.slice none 0 0, _, rfl, OwnG.nil_ _ _ _ _, h0.keep fun k hk => hb.block k (hfo k hk), fun k hk => .inl hk, Moved.of_below hb⟩
  | some L =>
    simp only [Option.getD_some] at hl
    obtain ⟨v, h1, h2, h3, h4, rfl⟩ := h
    obtain ⟨A, c, rfl, _, _⟩ := h2.form
    by_cases hr : refusedQ (atQ L f.plc) f = 0
    · obtain ⟨r1, r2, r3⟩ := refusedQ_zero hr
      by_cases hx : f.b = true ∧ f.d = true
      · have hhd : ∀ x, (atQ L f.plc ++ [f]).head? = some x → x.c = true := by
          have h5 := (hh L rfl).add r2
          have h6 := h5 f.plc
          rw [atQ_append, if_pos rfl] at h6
          exact h6
        refine (qfeed_whole f gb L.length c B A L w h1 h2 h3 hB hl h4 hf.2.2.2 hr hx.1 hx.2 (fun j hj hc => segs_head hhd j hj hc) (by rw [payQ_append]; simp only [payQ]; omega)).mono ?_
        have e : feedQO (some L) f = (⟨f.ch, f.k, segsQ (atQ L f.plc ++ [f]), true, 0⟩, some (L.filter fun x => decide (x.plc ≠ f.plc))) := by
          show feedQ L f = _
          unfold feedQ
          rw [if_neg (by simpa using hr), if_pos hx]
        rw [e]
        rintro e' w' ⟨v', vs, rfl, g1, g2, g3, g4, g5⟩
        refine ⟨vs, _, rfl, g1, ⟨v', g2, g3, h3, fun x hx => h4 x (List.mem_filter.1 hx).1, rfl⟩, ?_, g5⟩
        rintro k (hk | hk)
        · exact .inl (.inl hk)
        · exact .inr (g4 k hk)
      · refine (qfeed_on f gb L.length c B A L w h1 h2 h3 hB hl h4 hf.2.2.2 hr hx).mono ?_
        have e : feedQO (some L) f = (ans0 0, some (L ++ [f])) := by
          show feedQ L f = _
          unfold feedQ
          rw [if_neg (by simpa using hr), if_neg hx]
        rw [e]
        rintro e' w' ⟨v', rfl, g1, g2, g3, g4⟩
        refine ⟨.slice none 0 0, _, rfl, OwnG.nil_ _ _ _ _, ⟨v', g1, g2, h3, fun x hx => ?_, rfl⟩, ?_, g4⟩
        · rcases List.mem_append.1 hx with hx | hx
          · exact h4 x hx
          · rw [List.mem_singleton.1 hx]
            exact r1
        · rintro k (hk | hk)
          · exact .inl (.inl hk)
          · rcases g3 with g3 | ⟨k', g3, g5⟩
            · exact .inl (.inr (by rw [← g3]; exact hk))
            · rw [g3] at hk
              cases hk
              exact .inr g5
    · obtain ⟨d, _, hs⟩ := h2.shows
      refine (qfeed_no f gb L.length c d A L w h1 hs hl h4 hf.2.2.2 hr).mono ?_
      have e : feedQO (some L) f = (ans0 (refusedQ (atQ L f.plc) f), none) := by
        show feedQ L f = _
        unfold feedQ
        rw [if_pos (by simpa using hr)]
      rw [e]
      rintro e' w' ⟨rfl, g1, g2⟩
      refine ⟨.slice none 0 0, _, rfl, OwnG.nil_ _ _ _ _, ⟨g1, h3, rfl⟩, fun k hk => .inl (.inl hk), ?_⟩
      exact ⟨g2.os, g2.tape, g2.output, g2.size, fun k hk hn => g2.block k hk fun e => hn (.inl e)⟩
theorem qopen_said (w : World) (B gb : Nat) (q : Option (List Fr)) (F : Nat → Prop) (h : QW w B gb q F) (hl : (q.getD []).length ≤ 1099511627776) :
    Calls Try.prog 11 #[.pointer (some ⟨gb, 0, none⟩)] w fun e w' => e = .returned (.int .i64 ((distQ [] ((q.getD []).map Fr.plc)).length : Nat)) ∧ ∃ n, w' = w.drewN n := by
  cases q with
  | none =>
    obtain ⟨h1, h2, rfl⟩ := h
    exact qgOpen_any gb 0 0 0 none true [] w h1 (ShowsG.nil_ _ _ _) (by simp)
  | some L =>
    obtain ⟨v, h1, h2, h3, h4, rfl⟩ := h
    obtain ⟨A, c, rfl, _, _⟩ := h2.form
    obtain ⟨d, _, hs⟩ := h2.shows
    exact qgOpen_any gb L.length c d A false L w h1 hs hl

end Go.Proofs.Ytocankfabgjjmaa
