/-
  Sets as lists of intervals, of no program: canonical lists, their members, that a set has one canonical list, how many members it has, and the document's sweep over edges.
  Conditions: none.
-/
import Derived.Test.YtpbdnfonflmncaaGreatMemZ
namespace Go.Proofs.YtpbdnfonflmncaaGreat
set_option linter.unusedVariables false

/-- A span: its first and its last number. -/
abbrev Sp := Nat × Nat
/-- A number is in a list of spans. -/
def memS (l : List Sp) (n : Nat) : Prop := ∃ s ∈ l, s.1 ≤ n ∧ n ≤ s.2
instance (l : List Sp) (n : Nat) : Decidable (memS l n) := by unfold memS; infer_instance
/-- Canonical, all of it from 'from' on. -/
def canonFrom : Nat → List Sp → Prop
  | _, [] => True
  | b, s :: l => b ≤ s.1 ∧ s.1 ≤ s.2 ∧ canonFrom (s.2 + 2) l
instance : ∀ (b : Nat) (l : List Sp), Decidable (canonFrom b l)
  | _, [] => by unfold canonFrom; infer_instance
  | b, s :: l => by
    unfold canonFrom
    have : Decidable (canonFrom (s.2 + 2) l) := instDecidableCanonFrom _ l
    infer_instance
def canon (l : List Sp) : Prop := canonFrom 0 l
instance (l : List Sp) : Decidable (canon l) := by unfold canon; infer_instance

theorem memS_nil (n : Nat) : ¬ memS [] n := by rintro ⟨s, h, _⟩; cases h
theorem memS_cons (s : Sp) (l : List Sp) (n : Nat) : memS (s :: l) n ↔ (s.1 ≤ n ∧ n ≤ s.2) ∨ memS l n := by
  constructor
  · rintro ⟨t, h, h1⟩
    rcases List.mem_cons.1 h with rfl | h
    · exact .inl h1
    · exact .inr ⟨t, h, h1⟩
  · rintro (h | ⟨t, h, h1⟩)
    · exact ⟨s, List.mem_cons_self .., h⟩
    · exact ⟨t, List.mem_cons_of_mem _ h, h1⟩
theorem memS_append (a b : List Sp) (n : Nat) : memS (a ++ b) n ↔ memS a n ∨ memS b n := by
  constructor
  · rintro ⟨t, h, h1⟩
    rcases List.mem_append.1 h with h | h
    · exact .inl ⟨t, h, h1⟩
    · exact .inr ⟨t, h, h1⟩
  · rintro (⟨t, h, h1⟩ | ⟨t, h, h1⟩)
    · exact ⟨t, List.mem_append_left _ h, h1⟩
    · exact ⟨t, List.mem_append_right _ h, h1⟩

theorem canonFrom_mono : ∀ {b c : Nat} {l : List Sp}, canonFrom b l → c ≤ b → canonFrom c l
  | _, _, [], _, _ => trivial
  | _, _, s :: l, ⟨h1, h2, h3⟩, h => ⟨by omega, h2, h3⟩
theorem canonFrom_ge : ∀ {b : Nat} {l : List Sp}, canonFrom b l → ∀ n, memS l n → b ≤ n
  | _, [], _, n, h => absurd h (memS_nil n)
  | b, s :: l, ⟨h1, h2, h3⟩, n, h => by
    rcases (memS_cons s l n).1 h with h | h
    · omega
    · have := canonFrom_ge h3 n h
      omega

/-- A set has one canonical list. -/
theorem canon_unique : ∀ {b : Nat} {l m : List Sp}, canonFrom b l → canonFrom b m → (∀ n, memS l n ↔ memS m n) → l = m
  | _, [], [], _, _, _ => rfl
  | _, [], t :: m, _, ⟨_, h2, _⟩, h => absurd ((h t.1).2 ((memS_cons t m t.1).2 (.inl ⟨Nat.le_refl _, h2⟩))) (memS_nil _)
  | _, s :: l, [], ⟨_, h2, _⟩, _, h => absurd ((h s.1).1 ((memS_cons s l s.1).2 (.inl ⟨Nat.le_refl _, h2⟩))) (memS_nil _)
  | b, s :: l, t :: m, ⟨a1, a2, a3⟩, ⟨b1, b2, b3⟩, h => by
    have e1 : s.1 = t.1 := by
      have h1 := (h s.1).1 ((memS_cons s l _).2 (.inl ⟨Nat.le_refl _, a2⟩))
      have h2 := (h t.1).2 ((memS_cons t m _).2 (.inl ⟨Nat.le_refl _, b2⟩))
      rcases (memS_cons t m _).1 h1 with h1 | h1
      · rcases (memS_cons s l _).1 h2 with h2 | h2
        · omega
        · have := canonFrom_ge a3 _ h2; omega
      · have := canonFrom_ge b3 _ h1
        rcases (memS_cons s l _).1 h2 with h2 | h2
        · omega
        · have := canonFrom_ge a3 _ h2; omega
    have e2 : s.2 = t.2 := by
      rcases Nat.lt_trichotomy s.2 t.2 with hlt | he | hlt
      · exfalso
        have h2 := (h (s.2 + 1)).2 ((memS_cons t m _).2 (.inl ⟨by omega, by omega⟩))
        rcases (memS_cons s l _).1 h2 with h2 | h2
        · omega
        · have := canonFrom_ge a3 _ h2; omega
      · exact he
      · exfalso
        have h2 := (h (t.2 + 1)).1 ((memS_cons s l _).2 (.inl ⟨by omega, by omega⟩))
        rcases (memS_cons t m _).1 h2 with h2 | h2
        · omega
        · have := canonFrom_ge b3 _ h2; omega
    have e : s = t := Prod.ext e1 e2
    subst e
    congr 1
    refine canon_unique a3 b3 fun n => ?_
    constructor
    · intro hn
      have hg := canonFrom_ge a3 n hn
      rcases (memS_cons s m n).1 ((h n).1 ((memS_cons s l n).2 (.inr hn))) with h1 | h1
      · omega
      · exact h1
    · intro hn
      have hg := canonFrom_ge b3 n hn
      rcases (memS_cons s l n).1 ((h n).2 ((memS_cons s m n).2 (.inr hn))) with h1 | h1
      · omega
      · exact h1

/-- How many of the numbers below N have a property. -/
def cnt (p : Nat → Bool) : Nat → Nat
  | 0 => 0
  | n + 1 => cnt p n + (if p n then 1 else 0)
theorem cnt_congr {p q : Nat → Bool} : ∀ {N : Nat}, (∀ n, n < N → p n = q n) → cnt p N = cnt q N
  | 0, _ => rfl
  | N + 1, h => by rw [cnt, cnt, cnt_congr (N := N) (fun n hn => h n (by omega)), h N (by omega)]
theorem cnt_or {p q : Nat → Bool} : ∀ {N : Nat}, (∀ n, n < N → ¬ (p n = true ∧ q n = true)) → cnt (fun n => p n || q n) N = cnt p N + cnt q N
  | 0, _ => rfl
  | N + 1, h => by
    have h1 := h N (by omega)
    rw [cnt, cnt, cnt, cnt_or (N := N) (fun n hn => h n (by omega))]
    cases hp : p N <;> cases hq : q N <;> simp_all <;> omega
theorem cnt_false : ∀ N, cnt (fun _ => false) N = 0
  | 0 => rfl
  | N + 1 => by rw [cnt, cnt_false N]; rfl
theorem cnt_span (a b : Nat) : ∀ N, cnt (fun n => decide (a ≤ n ∧ n ≤ b)) N = min N (b + 1) - min N a
  | 0 => by simp [cnt]
  | N + 1 => by
    rw [cnt, cnt_span a b N]
    by_cases h : a ≤ N ∧ N ≤ b
    · rw [if_pos (by simpa using h)]; omega
    · rw [if_neg (by simpa using h)]; omega

/-- The document's count. -/
def cntS : List Sp → Nat
  | [] => 0
  | s :: l => (s.2 - s.1 + 1) + cntS l
theorem cntS_eq : ∀ {b : Nat} {l : List Sp} (N : Nat), canonFrom b l → (∀ s ∈ l, s.2 < N) → cntS l = cnt (fun n => decide (memS l n)) N
  | _, [], N, _, _ => by
    rw [cntS, ← cnt_false N]
    exact cnt_congr fun n _ => by simp [memS_nil]
  | b, s :: l, N, ⟨h1, h2, h3⟩, hN => by
    have hs := hN s (List.mem_cons_self ..)
    have e : cnt (fun n => decide (memS (s :: l) n)) N = cnt (fun n => decide (s.1 ≤ n ∧ n ≤ s.2) || decide (memS l n)) N := cnt_congr fun n _ => by
      rw [← Bool.decide_or]
      exact decide_eq_decide.2 (memS_cons s l n)
    rw [cntS, e, cnt_or, cnt_span, ← cntS_eq N h3 fun t ht => hN t (List.mem_cons_of_mem _ ht)]
    · omega
    · rintro n hn ⟨ha, hb⟩
      have := canonFrom_ge h3 n (by simpa using hb)
      simp at ha
      omega

/-- Membership by the index, for a list that is read piece by piece. -/
theorem memS_take_succ (l : List Sp) (k n : Nat) (h : k < l.length) : memS (l.take (k + 1)) n ↔ memS (l.take k) n ∨ (l[k].1 ≤ n ∧ n ≤ l[k].2) := by
  rw [List.take_succ_eq_append_getElem h, memS_append]
  constructor
  · rintro (h | h)
    · exact .inl h
    · rcases (memS_cons _ _ _).1 h with h | h
      · exact .inr h
      · exact absurd h (memS_nil _)
  · rintro (h | h)
    · exact .inl h
    · exact .inr ((memS_cons _ _ _).2 (.inl h))

/-- Canonical, read from the first span on: what a loop asks at place k. -/
theorem canon_iff (l : List Sp) : canon l ↔ ∀ k (h : k < l.length), l[k].1 ≤ l[k].2 ∧ (0 < k → ∀ (h' : k - 1 < l.length), l[k - 1].2 + 2 ≤ l[k].1) := by
  have aux : ∀ (l : List Sp) (b : Nat), canonFrom b l ↔ (∀ (h : 0 < l.length), b ≤ l[0].1) ∧ ∀ k (h : k < l.length), l[k].1 ≤ l[k].2 ∧ (0 < k → ∀ (h' : k - 1 < l.length), l[k - 1].2 + 2 ≤ l[k].1) := by
    intro l
    induction l with
    | nil => intro b; exact ⟨fun _ => ⟨fun h => absurd h (by simp), fun k h => absurd h (by simp)⟩, fun _ => trivial⟩
    | cons s l ih =>
      intro b
      constructor
      · rintro ⟨h1, h2, h3⟩
        obtain ⟨g1, g2⟩ := (ih _).1 h3
        refine ⟨fun _ => h1, fun k h => ?_⟩
        cases k with
        | zero => exact ⟨h2, fun h => absurd h (by omega)⟩
        | succ k =>
          have hk : k < l.length := by simpa using h
          obtain ⟨q1, q2⟩ := g2 k hk
          refine ⟨by simpa using q1, fun _ h' => ?_⟩
          cases k with
          | zero => simpa using g1 hk
          | succ k => simpa using q2 (by omega) (by simpa using Nat.lt_of_succ_lt hk)
      · rintro ⟨h1, h2⟩
        have hs := (h2 0 (by simp)).1
        refine ⟨h1 (by simp), hs, (ih _).2 ⟨fun hl => ?_, fun k hk => ?_⟩⟩
        · have := (h2 1 (by simpa using hl)).2 (by omega) (by simp)
          simpa using this
        · have := h2 (k + 1) (by simpa using hk)
          refine ⟨by simpa using this.1, fun hk0 h' => ?_⟩
          have h3 := this.2 (by omega) (by simp; omega)
          cases k with
          | zero => omega
          | succ k => simpa using h3
  rw [canon, aux]
  exact ⟨fun h => h.2, fun h => ⟨fun _ => Nat.zero_le _, h⟩⟩

/-- One span more at the end. -/
theorem canonFrom_snoc : ∀ {b : Nat} {l : List Sp} {s : Sp}, canonFrom b (l ++ [s]) ↔ canonFrom b l ∧ b ≤ s.1 ∧ s.1 ≤ s.2 ∧ ∀ t ∈ l, t.2 + 2 ≤ s.1
  | b, [], s => by simp [canonFrom]
  | b, t :: l, s => by
    simp only [List.cons_append, canonFrom]
    rw [canonFrom_snoc (b := t.2 + 2) (l := l)]
    constructor
    · rintro ⟨h1, h2, h3, h4, h5, h6⟩
      refine ⟨⟨h1, h2, h3⟩, by omega, h5, fun u hu => ?_⟩
      rcases List.mem_cons.1 hu with rfl | hu
      · exact h4
      · exact h6 u hu
    · rintro ⟨⟨h1, h2, h3⟩, h4, h5, h6⟩
      exact ⟨h1, h2, h3, h6 t (List.mem_cons_self ..), h5, fun u hu => h6 u (List.mem_cons_of_mem _ hu)⟩

/-- Rising, each once. -/
def rising (e : List Nat) : Prop := ∀ i j (hi : i < e.length) (hj : j < e.length), i < j → e[i] < e[j]

/-- A number put into a rising row at its place. -/
theorem rising_insert (e : List Nat) (k n : Nat) (hr : rising e) (hk : k ≤ e.length) (hlo : ∀ i (h : i < e.length), i < k → e[i] < n) (hhi : ∀ (h : k < e.length), n < e[k]) : rising (e.take k ++ ([n] ++ e.drop k)) := by
  intro i j hi hj hij
  have hl : (e.take k).length = k := by simp; omega
  have get : ∀ m (hm : m < (e.take k ++ ([n] ++ e.drop k)).length), (e.take k ++ ([n] ++ e.drop k))[m] = if h : m < k then e[m]'(by omega) else if h2 : m = k then n else e[m - 1]'(by simp at hm; omega) := by
    intro m hm
    by_cases h1 : m < k
    · rw [dif_pos h1, List.getElem_append_left (by omega), List.getElem_take]
    · rw [dif_neg h1, List.getElem_append_right (by omega)]
      by_cases h2 : m = k
      · simp [h2, hl]
      · rw [dif_neg h2, List.getElem_append_right (by simp; omega), List.getElem_drop]
        congr 1
        simp
        omega
  rw [get i hi, get j hj]
  simp at hi hj
  by_cases h1 : i < k
  · rw [dif_pos h1]
    by_cases h2 : j < k
    · rw [dif_pos h2]; exact hr _ _ _ _ hij
    · rw [dif_neg h2]
      by_cases h3 : j = k
      · rw [dif_pos h3]; exact hlo _ _ h1
      · rw [dif_neg h3]; exact hr _ _ _ _ (by omega)
  · rw [dif_neg h1]
    rw [dif_neg (by omega : ¬ j < k), dif_neg (by omega : ¬ j = k)]
    by_cases h3 : i = k
    · rw [dif_pos h3]
      have h4 := hhi (by omega)
      by_cases h5 : j - 1 = k
      · simp only [h5]; exact h4
      · exact Nat.lt_trans h4 (hr _ _ _ _ (by omega))
    · rw [dif_neg h3]; exact hr _ _ _ _ (by omega)
theorem mem_insert (e : List Nat) (k n x : Nat) : x ∈ e.take k ++ ([n] ++ e.drop k) ↔ x ∈ e ∨ x = n := by
  rw [List.mem_append, List.mem_append, List.mem_singleton]
  constructor
  · rintro (h | h | h)
    · exact .inl (List.mem_of_mem_take h)
    · exact .inr h
    · exact .inl (List.mem_of_mem_drop h)
  · rintro (h | h)
    · rw [← List.take_append_drop k e, List.mem_append] at h
      rcases h with h | h
      · exact .inl h
      · exact .inr (.inr h)
    · exact .inr (.inl h)

/-- The numbers at which something may change. -/
def edgesOf (l : List Sp) (e : List Nat) : Prop := rising e ∧ ∀ x, x ∈ e ↔ ∃ s ∈ l, x = s.1 ∨ x = s.2 + 1
theorem rising_le {e : List Nat} (hr : rising e) {i : Nat} (hi : i + 1 < e.length) {x : Nat} (hx : x ∈ e) (h : x < e[i + 1]) : x ≤ e[i] := by
  obtain ⟨j, hj, rfl⟩ := List.getElem_of_mem hx
  by_cases h1 : j ≤ i
  · by_cases h2 : j = i
    · subst h2; exact Nat.le_refl _
    · exact Nat.le_of_lt (hr _ _ _ _ (by omega))
  · exfalso
    by_cases h2 : j = i + 1
    · subst h2; omega
    · have := hr (i + 1) j hi hj (by omega); omega
theorem rising_ge {e : List Nat} (hr : rising e) {i : Nat} (hi : i + 1 < e.length) {x : Nat} (hx : x ∈ e) (h : e[i] < x) : e[i + 1] ≤ x := by
  rcases Nat.lt_or_ge x e[i + 1] with h1 | h1
  · have := rising_le hr hi hx h1; omega
  · exact h1

/-- Between two edges nothing changes. -/
theorem seg_const {all a : List Sp} {e : List Nat} (he : edgesOf all e) (ha : ∀ s ∈ a, s ∈ all) {i : Nat} (hi : i + 1 < e.length) {n : Nat} (h1 : e[i] ≤ n) (h2 : n < e[i + 1]) : memS a n ↔ memS a e[i] := by
  constructor
  · rintro ⟨s, hs, g1, g2⟩
    have := rising_le he.1 hi ((he.2 s.1).2 ⟨s, ha s hs, .inl rfl⟩) (by omega)
    exact ⟨s, hs, this, by omega⟩
  · rintro ⟨s, hs, g1, g2⟩
    have := rising_ge he.1 hi ((he.2 (s.2 + 1)).2 ⟨s, ha s hs, .inr rfl⟩) (by omega)
    exact ⟨s, hs, by omega, by omega⟩
theorem seg_low {all a : List Sp} {e : List Nat} (he : edgesOf all e) (ha : ∀ s ∈ a, s ∈ all) {n : Nat} (h : ∀ (h : 0 < e.length), n < e[0]) : ¬ memS a n := by
  rintro ⟨s, hs, g1, g2⟩
  obtain ⟨j, hj, hx⟩ := List.getElem_of_mem ((he.2 s.1).2 ⟨s, ha s hs, .inl rfl⟩)
  have h0 := h (by omega)
  by_cases hj0 : j = 0
  · subst hj0; omega
  · have := he.1 0 j (by omega) hj (by omega); omega
theorem seg_high {all a : List Sp} {e : List Nat} (he : edgesOf all e) (ha : ∀ s ∈ a, s ∈ all) {n : Nat} (h : ∀ (h : 0 < e.length), e[e.length - 1] ≤ n) : ¬ memS a n := by
  rintro ⟨s, hs, g1, g2⟩
  obtain ⟨j, hj, hx⟩ := List.getElem_of_mem ((he.2 (s.2 + 1)).2 ⟨s, ha s hs, .inr rfl⟩)
  have h0 := h (by omega)
  by_cases hj0 : j = e.length - 1
  · subst hj0; omega
  · have := he.1 j (e.length - 1) hj (by omega) (by omega); omega

/-- What the sweep has behind it at edge i. -/
def swept (op : Nat → Prop) (e : List Nat) (i : Nat) (out : List Sp) : Prop :=
  canon out ∧ ∀ (h : i < e.length), (∀ s ∈ out, s.2 < e[i]) ∧ ∀ n, memS out n ↔ n < e[i] ∧ op n
theorem swept_zero {op : Nat → Prop} {e : List Nat} (h : ∀ n, (∀ (h : 0 < e.length), n < e[0]) → ¬ op n) : swept op e 0 [] :=
  ⟨trivial, fun hi => ⟨fun s hs => absurd hs (by simp), fun n => ⟨fun hn => absurd hn (memS_nil n), fun ⟨h1, h2⟩ => absurd h2 (h n fun _ => h1)⟩⟩⟩
section
variable {op : Nat → Prop} {e : List Nat} {i : Nat} {out : List Sp}
theorem swept_no (h : swept op e i out) (hr : rising e) (hi : i + 1 < e.length) (hc : ∀ n, e[i] ≤ n → n < e[i + 1] → (op n ↔ op e[i])) (hno : ¬ op e[i]) : swept op e (i + 1) out := by
  have hlt := hr i (i + 1) (by omega) hi (by omega)
  obtain ⟨h1, h2⟩ := h.2 (by omega)
  refine ⟨h.1, fun _ => ⟨fun s hs => by have := h1 s hs; omega, fun n => ?_⟩⟩
  rw [h2 n]
  constructor
  · rintro ⟨a, b⟩; exact ⟨by omega, b⟩
  · rintro ⟨a, b⟩
    rcases Nat.lt_or_ge n e[i] with h3 | h3
    · exact ⟨h3, b⟩
    · exact absurd ((hc n h3 a).1 b) hno
theorem swept_new (h : swept op e i out) (hr : rising e) (hi : i + 1 < e.length) (hc : ∀ n, e[i] ≤ n → n < e[i + 1] → (op n ↔ op e[i])) (hyes : op e[i]) (hlast : ∀ s ∈ out, s.2 + 1 ≠ e[i]) : swept op e (i + 1) (out ++ [(e[i], e[i + 1] - 1)]) := by
  have hlt := hr i (i + 1) (by omega) hi (by omega)
  obtain ⟨h1, h2⟩ := h.2 (by omega)
  refine ⟨canonFrom_snoc.2 ⟨h.1, Nat.zero_le _, by simp; omega, fun t ht => by have := h1 t ht; have := hlast t ht; simp; omega⟩, fun _ => ⟨fun s hs => ?_, fun n => ?_⟩⟩
  · rcases List.mem_append.1 hs with hs | hs
    · have := h1 s hs; omega
    · simp at hs; subst hs; simp; omega
  · rw [memS_append, h2 n, memS_cons]
    constructor
    · rintro (⟨a, b⟩ | a | a)
      · exact ⟨by omega, b⟩
      · simp at a; exact ⟨by omega, (hc n a.1 (by omega)).2 hyes⟩
      · exact absurd a (memS_nil n)
    · rintro ⟨a, b⟩
      rcases Nat.lt_or_ge n e[i] with h3 | h3
      · exact .inl ⟨h3, b⟩
      · exact .inr (.inl ⟨h3, by simp; omega⟩)
theorem swept_more {s : Sp} (h : swept op e i (out ++ [s])) (hr : rising e) (hi : i + 1 < e.length) (hc : ∀ n, e[i] ≤ n → n < e[i + 1] → (op n ↔ op e[i])) (hyes : op e[i]) (hlast : s.2 + 1 = e[i]) : swept op e (i + 1) (out ++ [(s.1, e[i + 1] - 1)]) := by
  have hlt := hr i (i + 1) (by omega) hi (by omega)
  obtain ⟨h1, h2⟩ := h.2 (by omega)
  obtain ⟨c1, c2, c3, c4⟩ := canonFrom_snoc.1 h.1
  refine ⟨canonFrom_snoc.2 ⟨c1, c2, by simp; omega, c4⟩, fun _ => ⟨fun t ht => ?_, fun n => ?_⟩⟩
  · rcases List.mem_append.1 ht with ht | ht
    · have := h1 t (List.mem_append_left _ ht); omega
    · simp at ht; subst ht; simp; omega
  · have h2n := h2 n
    rw [memS_append, memS_cons] at h2n
    rw [memS_append, memS_cons]
    constructor
    · rintro (a | a | a)
      · have := h2n.1 (.inl a); exact ⟨by omega, this.2⟩
      · simp at a
        rcases Nat.lt_or_ge n e[i] with h3 | h3
        · have := h2n.1 (.inr (.inl ⟨a.1, by omega⟩)); exact ⟨by omega, this.2⟩
        · exact ⟨by omega, (hc n h3 (by omega)).2 hyes⟩
      · exact absurd a (memS_nil n)
    · rintro ⟨a, b⟩
      rcases Nat.lt_or_ge n e[i] with h3 | h3
      · rcases h2n.2 ⟨h3, b⟩ with h4 | h4 | h4
        · exact .inl h4
        · exact .inr (.inl ⟨h4.1, by simp; omega⟩)
        · exact absurd h4 (memS_nil n)
      · exact .inr (.inl ⟨by simp; omega, by simp; omega⟩)
/-- Behind the last edge: the set's canonical list. -/
theorem swept_end (h : swept op e i out) (hi : i + 1 = e.length) (hhi : ∀ n, (∀ (h : 0 < e.length), e[e.length - 1] ≤ n) → ¬ op n) : canon out ∧ ∀ n, memS out n ↔ op n := by
  obtain ⟨h1, h2⟩ := h.2 (by omega)
  refine ⟨h.1, fun n => ?_⟩
  rw [h2 n]
  constructor
  · exact fun h => h.2
  · intro hn
    refine ⟨?_, hn⟩
    rcases Nat.lt_or_ge n e[i] with h3 | h3
    · exact h3
    · exact absurd hn (hhi n fun _ => by simp only [show e.length - 1 = i by omega]; exact h3)
end

end Go.Proofs.YtpbdnfonflmncaaGreat
