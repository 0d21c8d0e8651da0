/-
  Facts of the package spans' ways, of no program: the place of a number in a canonical list, the numbers at which a set begins or ends, the sweep over two sets, a list of which a middle part is changed.
  Conditions: none.
-/
import Derived.Test.YtpchjgeehejkeaaRef03C
namespace Go.Proofs.Ytpchjgeehejkeaa
set_option linter.unusedVariables false
set_option linter.unusedSimpArgs false

theorem canon_le_ {l : List Sp} (h : canon l) {a : Nat} (ha : a < l.length) : l[a].1 ≤ l[a].2 := ((canon_iff l).1 h a ha).1
theorem canon_lt {l : List Sp} (h : canon l) : ∀ {a b : Nat} (hab : a < b) (hb : b < l.length), l[a].2 + 2 ≤ l[b].1
  | a, 0, hab, _ => absurd hab (by omega)
  | a, b + 1, hab, hb => by
    have h1 := ((canon_iff l).1 h (b + 1) hb).2 (by omega) (by omega)
    simp only [Nat.add_sub_cancel] at h1
    by_cases e : a = b
    · subst e; exact h1
    · have h2 := canon_lt h (a := a) (b := b) (by omega) (by omega)
      have h3 := canon_le_ h (a := b) (by omega)
      omega
theorem canon_mono2 {l : List Sp} (h : canon l) {a b : Nat} (hab : a ≤ b) (hb : b < l.length) : l[a].2 ≤ l[b].2 := by
  by_cases e : a = b
  · subst e; exact Nat.le_refl _
  · have := canon_lt h (a := a) (b := b) (by omega) hb
    have := canon_le_ h hb
    omega
theorem canon_mono1 {l : List Sp} (h : canon l) {a b : Nat} (hab : a ≤ b) (hb : b < l.length) : l[a].1 ≤ l[b].1 := by
  by_cases e : a = b
  · subst e; exact Nat.le_refl _
  · have := canon_lt h (a := a) (b := b) (by omega) hb
    have := canon_le_ h (a := a) (by omega)
    omega
theorem canonFrom_append : ∀ {c : Nat} {a b : List Sp}, canonFrom c a → canonFrom c b → (∀ s ∈ a, ∀ t ∈ b, s.2 + 2 ≤ t.1) → canonFrom c (a ++ b)
  | _, [], _, _, hb, _ => hb
  | c, s :: a, b, ⟨h1, h2, h3⟩, hb, h => by
    refine ⟨h1, h2, canonFrom_append h3 ?_ fun x hx => h x (List.mem_cons_of_mem _ hx)⟩
    cases b with
    | nil => exact trivial
    | cons t b => exact ⟨h s (List.mem_cons_self ..) t (List.mem_cons_self ..), hb.2.1, hb.2.2⟩
theorem canon_append {a b : List Sp} (ha : canon a) (hb : canon b) (h : ∀ s ∈ a, ∀ t ∈ b, s.2 + 2 ≤ t.1) : canon (a ++ b) := canonFrom_append ha hb h
theorem canon_take {l : List Sp} (h : canon l) (k : Nat) : canon (l.take k) := by
  rw [canon_iff]
  intro j hj
  have hj' : j < l.length := by simp at hj; omega
  obtain ⟨h1, h2⟩ := (canon_iff l).1 h j hj'
  exact ⟨by simpa using h1, fun hp h' => by have := h2 hp (by omega); simpa using this⟩
theorem canon_drop {l : List Sp} (h : canon l) (k : Nat) : canon (l.drop k) := by
  rw [canon_iff]
  intro j hj
  have hj' : k + j < l.length := by simp at hj; omega
  obtain ⟨h1, h2⟩ := (canon_iff l).1 h (k + j) hj'
  refine ⟨by simpa using h1, fun hp h' => ?_⟩
  have := h2 (by omega) (by omega)
  have e : k + j - 1 = k + (j - 1) := by omega
  simp only [e] at this
  simpa using this

/-- The place of a number: the spans ahead of it end below it, the others don't. -/
def isAt (l : List Sp) (x k : Nat) : Prop := k ≤ l.length ∧ (∀ j (h : j < l.length), j < k → l[j].2 < x) ∧ ∀ j (h : j < l.length), k ≤ j → x ≤ l[j].2
theorem isAt_mem {l : List Sp} {x k : Nat} (h : isAt l x k) (hc : canon l) : memS l x ↔ ∃ h : k < l.length, l[k].1 ≤ x := by
  rw [memS_iff_get]
  constructor
  · rintro ⟨j, hj, h1, h2⟩
    have h3 : k ≤ j := by
      rcases Nat.lt_or_ge j k with h4 | h4
      · have := h.2.1 j hj h4; omega
      · exact h4
    by_cases e : k = j
    · subst e; exact ⟨hj, h1⟩
    · have h5 := canon_lt hc (a := k) (b := j) (by omega) hj
      have h6 := h.2.2 k (by omega) (Nat.le_refl _)
      omega
  · rintro ⟨hk, h1⟩
    exact ⟨k, hk, h1, h.2.2 k hk (Nat.le_refl _)⟩

/-- The numbers at which a set begins, and behind which it ends. -/
def edgeN (l : List Sp) (i : Nat) : Nat := if h : i / 2 < l.length then (if i % 2 = 0 then l[i / 2].1 else l[i / 2].2 + 1) else 1099511627776
theorem edgeN_even {l : List Sp} {m : Nat} (h : m < l.length) : edgeN l (2 * m) = l[m].1 := by
  unfold edgeN
  have e : 2 * m / 2 = m := by omega
  simp only [e]
  rw [dif_pos h, if_pos (by omega)]
theorem edgeN_odd {l : List Sp} {m : Nat} (h : m < l.length) : edgeN l (2 * m + 1) = l[m].2 + 1 := by
  unfold edgeN
  have e : (2 * m + 1) / 2 = m := by omega
  simp only [e]
  rw [dif_pos h, if_neg (by omega)]
theorem edgeN_end {l : List Sp} {i : Nat} (h : 2 * l.length ≤ i) : edgeN l i = 1099511627776 := by
  unfold edgeN
  rw [dif_neg (by omega)]
theorem edgeN_le {l : List Sp} (hu : u32s l) {i : Nat} (h : i < 2 * l.length) : edgeN l i ≤ 4294967296 := by
  rcases (show i = 2 * (i / 2) ∨ i = 2 * (i / 2) + 1 by omega) with e | e
  · rw [e, edgeN_even (by omega)]
    have := (u32s_get hu (k := i / 2) (by omega)).1
    omega
  · rw [e, edgeN_odd (by omega)]
    have := (u32s_get hu (k := i / 2) (by omega)).2
    omega
theorem edgeN_le' {l : List Sp} (hu : u32s l) (i : Nat) : edgeN l i ≤ 1099511627776 := by
  by_cases h : i < 2 * l.length
  · have := edgeN_le hu h; omega
  · rw [edgeN_end (by omega)]; exact Nat.le_refl _
theorem edgeN_lt {l : List Sp} (hc : canon l) (hu : u32s l) {i : Nat} (h : i < 2 * l.length) : edgeN l i < edgeN l (i + 1) := by
  rcases (show i = 2 * (i / 2) ∨ i = 2 * (i / 2) + 1 by omega) with e | e
  · have hm : i / 2 < l.length := by omega
    have := canon_le_ hc hm
    rw [e, edgeN_even hm, edgeN_odd hm]
    omega
  · have hm : i / 2 < l.length := by omega
    have e2 : edgeN l i = l[i / 2].2 + 1 := by
      have := edgeN_odd hm
      rwa [← e] at this
    by_cases hm2 : i / 2 + 1 < l.length
    · have e3 : edgeN l (i + 1) = l[i / 2 + 1].1 := by
        have := edgeN_even hm2
        rwa [show 2 * (i / 2 + 1) = i + 1 by omega] at this
      have := canon_lt hc (a := i / 2) (b := i / 2 + 1) (by omega) hm2
      omega
    · rw [e2, edgeN_end (by omega)]
      have := (u32s_get hu hm).2
      omega
theorem edgeN_mem {l : List Sp} (hc : canon l) {i n : Nat} (h0 : i = 0 ∨ edgeN l (i - 1) ≤ n) (h1 : n < edgeN l i) : memS l n ↔ i % 2 = 1 := by
  rw [memS_iff_get]
  rcases (show i = 2 * (i / 2) ∨ i = 2 * (i / 2) + 1 by omega) with e | e
  · generalize i / 2 = m at e
    subst e
    constructor
    · rintro ⟨j, hj, h2, h3⟩
      exfalso
      by_cases hjm : j < m
      · rcases h0 with h0 | h0
        · omega
        · by_cases hm : m - 1 < l.length
          · rw [show 2 * m - 1 = 2 * (m - 1) + 1 by omega, edgeN_odd hm] at h0
            have := canon_mono2 hc (a := j) (b := m - 1) (by omega) hm
            omega
          · rw [edgeN_end (by omega)] at h0 h1
            omega
      · have hm : m < l.length := by omega
        rw [edgeN_even hm] at h1
        have := canon_mono1 hc (a := m) (b := j) (by omega) hj
        omega
    · intro h; omega
  · generalize i / 2 = m at e
    subst e
    refine ⟨fun _ => by omega, fun _ => ?_⟩
    rcases h0 with h0 | h0
    · omega
    · rw [show 2 * m + 1 - 1 = 2 * m by omega] at h0
      by_cases hm : m < l.length
      · rw [edgeN_even hm] at h0
        rw [edgeN_odd hm] at h1
        exact ⟨m, hm, h0, by omega⟩
      · rw [edgeN_end (by omega)] at h0 h1
        omega

/-- Is a number kept that is behind so many edges of each? -/
def kb (mode i j : Nat) : Bool := opB mode (decide (i % 2 = 1)) (decide (j % 2 = 1))
theorem kb_odd {mode i j : Nat} (h : kb mode i j = true) : i % 2 = 1 ∨ j % 2 = 1 := by
  by_cases h1 : i % 2 = 1
  · exact .inl h1
  · by_cases h2 : j % 2 = 1
    · exact .inr h2
    · unfold kb at h
      rw [decide_eq_false h1, decide_eq_false h2, opB_none] at h
      cases h
theorem kb_even {mode i j : Nat} (h1 : i % 2 = 0) (h2 : j % 2 = 0) : kb mode i j = false := by
  unfold kb
  rw [decide_eq_false (by omega), decide_eq_false (by omega), opB_none]

/-- What stands when all numbers below 'prev' are done. -/
def Swp (mode : Nat) (a b : List Sp) (i j prev frm : Nat) (kept : Bool) (out : List Sp) : Prop :=
  (i ≤ 2 * a.length ∧ j ≤ 2 * b.length ∧ kept = kb mode i j) ∧ ((i = 0 ∨ edgeN a (i - 1) ≤ prev) ∧ (j = 0 ∨ edgeN b (j - 1) ≤ prev)) ∧
  ((prev < edgeN a i ∧ prev < edgeN b j) ∨ (out = [] ∧ kept = false ∧ prev = 0)) ∧
  (canon out ∧ (∀ s ∈ out, s.2 + 1 ≤ prev) ∧ u32s out ∧ out.length ≤ i + j) ∧
  (kept = true → frm ≤ prev ∧ frm < 4294967296 ∧ ∀ s ∈ out, s.2 + 2 ≤ frm) ∧
  ∀ n, n < prev → (opM mode a b n ↔ memS out n ∨ (kept = true ∧ frm ≤ n))
theorem Swp_zero (mode : Nat) (a b : List Sp) : Swp mode a b 0 0 0 0 false [] :=
  ⟨⟨Nat.zero_le _, Nat.zero_le _, (kb_even rfl rfl).symm⟩, ⟨.inl rfl, .inl rfl⟩, .inr ⟨rfl, rfl, rfl⟩, ⟨trivial, fun s hs => absurd hs (by simp), fun s hs => absurd hs (by simp), Nat.zero_le _⟩, (fun h => by cases h), fun n hn => absurd hn (by omega)⟩
theorem opM_kb {mode : Nat} {a b : List Sp} {i j n : Nat} (h1 : memS a n ↔ i % 2 = 1) (h2 : memS b n ↔ j % 2 = 1) : opM mode a b n ↔ kb mode i j = true := by
  unfold opM kb
  rw [decide_eq_decide.2 h1, decide_eq_decide.2 h2]
theorem Swp_step {mode : Nat} {a b : List Sp} {i j prev frm : Nat} {kept : Bool} {out : List Sp} (h : Swp mode a b i j prev frm kept out) (hca : canon a) (hcb : canon b) (hua : u32s a) (hub : u32s b)
    (hg : i < 2 * a.length ∨ j < 2 * b.length) {at_ i' j' frm' : Nat} {out' : List Sp} (hat : at_ = min (edgeN a i) (edgeN b j)) (hi : i' = if edgeN a i = at_ then i + 1 else i) (hj : j' = if edgeN b j = at_ then j + 1 else j)
    (hf : frm' = if (kb mode i' j' && !kept) = true then at_ else frm) (ho : out' = if (kept && !kb mode i' j') = true then out ++ [(frm, at_ - 1)] else out) :
    Swp mode a b i' j' at_ frm' (kb mode i' j') out' ∧ at_ ≤ 4294967296 ∧ (kept = true → 1 ≤ at_) ∧ i + j < i' + j' := by
  obtain ⟨⟨q1, q2, q3⟩, ⟨q4, q5⟩, q6, ⟨q7, q8, q9, q10⟩, q11, q12⟩ := h
  have hle : at_ ≤ 4294967296 := by
    rcases hg with hg | hg
    · have := edgeN_le hua hg; omega
    · have := edgeN_le hub hg; omega
  have hpa : prev ≤ at_ := by
    rcases q6 with ⟨h1, h2⟩ | ⟨_, _, h⟩ <;> omega
  have hia : edgeN a i = at_ → i < 2 * a.length := fun e => by
    rcases Nat.lt_or_ge i (2 * a.length) with h | h
    · exact h
    · rw [edgeN_end h] at e; omega
  have hjb : edgeN b j = at_ → j < 2 * b.length := fun e => by
    rcases Nat.lt_or_ge j (2 * b.length) with h | h
    · exact h
    · rw [edgeN_end h] at e; omega
  have r1 : i' ≤ 2 * a.length ∧ (i' = 0 ∨ edgeN a (i' - 1) ≤ at_) ∧ at_ < edgeN a i' := by
    by_cases e : edgeN a i = at_
    · rw [if_pos e] at hi
      subst hi
      have h1 := hia e
      have h2 := edgeN_lt hca hua h1
      exact ⟨by omega, .inr (by rw [Nat.add_sub_cancel]; omega), by omega⟩
    · rw [if_neg e] at hi
      subst hi
      exact ⟨q1, by rcases q4 with h | h; exact .inl h; exact .inr (by omega), by omega⟩
  have r2 : j' ≤ 2 * b.length ∧ (j' = 0 ∨ edgeN b (j' - 1) ≤ at_) ∧ at_ < edgeN b j' := by
    by_cases e : edgeN b j = at_
    · rw [if_pos e] at hj
      subst hj
      have h1 := hjb e
      have h2 := edgeN_lt hcb hub h1
      exact ⟨by omega, .inr (by rw [Nat.add_sub_cancel]; omega), by omega⟩
    · rw [if_neg e] at hj
      subst hj
      exact ⟨q2, by rcases q5 with h | h; exact .inl h; exact .inr (by omega), by omega⟩
  have hij : i + j < i' + j' := by
    have h1 : i' = i ∨ i' = i + 1 := by rw [hi]; split; exact .inr rfl; exact .inl rfl
    have h2 : j' = j ∨ j' = j + 1 := by rw [hj]; split; exact .inr rfl; exact .inl rfl
    by_cases e : edgeN a i = at_
    · rw [if_pos e] at hi; omega
    · have e2 : edgeN b j = at_ := by omega
      rw [if_pos e2] at hj; omega
  have hkp : kept = true → 1 ≤ at_ ∧ frm ≤ at_ - 1 := fun hk => by
    rcases q6 with ⟨h1, h2⟩ | ⟨_, h, _⟩
    · have := (q11 hk).1
      omega
    · rw [hk] at h; cases h
  have hup : ∀ n, n < at_ → (opM mode a b n ↔ memS out n ∨ (kept = true ∧ frm ≤ n)) := fun n hn => by
    by_cases hnp : n < prev
    · exact q12 n hnp
    · have e1 := edgeN_mem hca (i := i) (n := n) (by rcases q4 with h | h; exact .inl h; exact .inr (by omega)) (by omega)
      have e2 := edgeN_mem hcb (i := j) (n := n) (by rcases q5 with h | h; exact .inl h; exact .inr (by omega)) (by omega)
      rw [opM_kb e1 e2, ← q3]
      constructor
      · intro h; exact .inr ⟨h, by have := (q11 h).1; omega⟩
      · rintro (⟨s, hs, h1, h2⟩ | ⟨h, _⟩)
        · have := q8 s hs; omega
        · exact h
  have hlow : ∀ s ∈ out, s.2 + 2 ≤ at_ := fun s hs => by
    have h8 := q8 s hs
    rcases q6 with ⟨h1, h2⟩ | ⟨h, _, _⟩
    · omega
    · rw [h] at hs; cases hs
  have hat32 : kb mode i' j' = true → at_ < 4294967296 := fun hk => by
    rcases kb_odd hk with ho | ho
    · have hlt : i' < 2 * a.length := by omega
      have := edgeN_le hua hlt
      omega
    · have hlt : j' < 2 * b.length := by omega
      have := edgeN_le hub hlt
      omega
  refine ⟨⟨⟨r1.1, r2.1, rfl⟩, ⟨r1.2.1, r2.2.1⟩, .inl ⟨r1.2.2, r2.2.2⟩, ?_⟩, hle, fun hk => (hkp hk).1, hij⟩
  cases hk : kept <;> cases hk2 : kb mode i' j' <;> simp [hk, hk2] at hf ho <;> subst hf <;> subst ho
  · refine ⟨⟨q7, fun s hs => by have := hlow s hs; omega, q9, by omega⟩, fun h => by simp at h, fun n hn => ?_⟩
    rw [hup n hn, hk]
  · refine ⟨⟨q7, fun s hs => by have := hlow s hs; omega, q9, by omega⟩, fun _ => ⟨Nat.le_refl _, hat32 hk2, hlow⟩, fun n hn => ?_⟩
    rw [hup n hn, hk]
    simp; omega
  · obtain ⟨h1, h2, h3⟩ := q11 hk
    obtain ⟨h4, h5⟩ := hkp hk
    refine ⟨⟨canonFrom_snoc.2 ⟨q7, Nat.zero_le _, h5, h3⟩, fun s hs => ?_, ?_, by simp; omega⟩, fun h => by simp at h, fun n hn => ?_⟩
    · rcases List.mem_append.1 hs with hs | hs
      · have := hlow s hs; omega
      · obtain rfl := List.mem_singleton.1 hs
        simp; omega
    · refine u32s_append q9 fun s hs => ?_
      obtain rfl := List.mem_singleton.1 hs
      simp; omega
    · rw [hup n hn, hk, memS_append, memS_cons]
      simp [memS_nil]
      constructor
      · rintro (h | h)
        · exact .inl h
        · exact .inr ⟨h, by omega⟩
      · rintro (h | h)
        · exact .inl h
        · exact .inr h.1
  · obtain ⟨h1, h2, h3⟩ := q11 hk
    refine ⟨⟨q7, fun s hs => by have := hlow s hs; omega, q9, by omega⟩, fun _ => ⟨by omega, h2, h3⟩, fun n hn => ?_⟩
    rw [hup n hn, hk]
theorem Swp_end {mode : Nat} {a b : List Sp} {i j prev frm : Nat} {kept : Bool} {out : List Sp} (h : Swp mode a b i j prev frm kept out) (hca : canon a) (hcb : canon b) (hua : u32s a) (hub : u32s b)
    (h1 : 2 * a.length ≤ i) (h2 : 2 * b.length ≤ j) : canon out ∧ (∀ n, memS out n ↔ opM mode a b n) ∧ u32s out ∧ out.length ≤ 2 * (a.length + b.length) := by
  obtain ⟨⟨q1, q2, q3⟩, ⟨q4, q5⟩, q6, ⟨q7, q8, q9, q10⟩, q11, q12⟩ := h
  have hk : kept = false := by rw [q3]; exact kb_even (by omega) (by omega)
  refine ⟨q7, fun n => ?_, q9, by omega⟩
  by_cases hn : n < prev
  · rw [q12 n hn, hk]; simp
  · have n1 : ¬ memS out n := by rintro ⟨s, hs, h3, h4⟩; have := q8 s hs; omega
    have hno : ∀ {l : List Sp} {i : Nat}, canon l → u32s l → 2 * l.length ≤ i → i ≤ 2 * l.length → (i = 0 ∨ edgeN l (i - 1) ≤ prev) → ¬ memS l n := fun {l i} hc hu h1 h2 hq hm => by
      by_cases hn2 : n < 1099511627776
      · have := (edgeN_mem hc (i := i) (n := n) (by rcases hq with h | h; exact .inl h; exact .inr (by omega)) (by rw [edgeN_end h1]; exact hn2)).1 hm
        omega
      · obtain ⟨s, hs, h5, h6⟩ := hm
        have := (hu s hs).2
        omega
    exact ⟨fun h => absurd h n1, fun h => absurd h (opM_none (hno hca hua h1 q1 q4) (hno hcb hub h2 q2 q5))⟩

/-- Which spans share a number with the ones from f to t, or lie next to them. -/
theorem met_facts {l : List Sp} (hc : canon l) (hu : u32s l) {f t st e0 en : Nat} (hft : f ≤ t) (ht : t < 4294967296) (h1 : isAt l (f - min f 1) st) (h2 : isAt l (t + min (4294967295 - t) 1) e0)
    (hen : en = if memS l (t + min (4294967295 - t) 1) then e0 + 1 else e0) :
    st ≤ en ∧ en ≤ l.length ∧ (∀ j (h : j < l.length), j < st → l[j].2 + 2 ≤ f) ∧ (∀ j (h : j < l.length), en ≤ j → t + 2 ≤ l[j].1) := by
  have a1 : ∀ j (h : j < l.length), j < st → l[j].2 + 2 ≤ f := fun j hj h => by
    have := h1.2.1 j hj h; omega
  have a2 : en ≤ l.length ∧ ∀ j (h : j < l.length), en ≤ j → t + 2 ≤ l[j].1 := by
    by_cases hm : memS l (t + min (4294967295 - t) 1)
    · rw [if_pos hm] at hen
      obtain ⟨hk, h3⟩ := (isAt_mem h2 hc).1 hm
      have h4 := h2.2.2 e0 hk (Nat.le_refl _)
      refine ⟨by omega, fun j hj hej => ?_⟩
      have h5 := canon_lt hc (a := e0) (b := j) (by omega) hj
      omega
    · rw [if_neg hm] at hen
      subst hen
      refine ⟨h2.1, fun j hj hej => ?_⟩
      have h3 := h2.2.2 j hj hej
      have h4 : ¬ l[j].1 ≤ t + min (4294967295 - t) 1 := fun h => hm ((memS_iff_get _ _).2 ⟨j, hj, h, h3⟩)
      have := u32s_get hu hj
      omega
  refine ⟨?_, a2.1, a1, a2.2⟩
  rcases Nat.lt_or_ge en st with h | h
  · have hl : en < l.length := by have := h1.1; omega
    have b1 := a1 en hl h
    have b2 := a2.2 en hl (Nat.le_refl _)
    have b3 := canon_le_ hc hl
    omega
  · exact h

/-- A canonical list of which a middle part is changed. -/
theorem changed_facts {l r : List Sp} (hc : canon l) (hu : u32s l) {f t st en mode : Nat} (hmode : mode = 1 ∨ mode = 2) (hft : f ≤ t) (hse : st ≤ en) (hel : en ≤ l.length) (h1 : ∀ j (h : j < l.length), j < st → l[j].2 + 2 ≤ f)
    (h2 : ∀ j (h : j < l.length), en ≤ j → t + 2 ≤ l[j].1) (hr : canon r) (hm : ∀ n, memS r n ↔ opM mode ((l.take en).drop st) [(f, t)] n) (hur : u32s r) (hlr : r.length ≤ 2 * (((l.take en).drop st).length + 1)) :
    canon (l.take st ++ r ++ l.drop en) ∧ (∀ n, memS (l.take st ++ r ++ l.drop en) n ↔ opM mode l [(f, t)] n) ∧ u32s (l.take st ++ r ++ l.drop en) ∧ (l.take st ++ r ++ l.drop en).length ≤ 2 * (l.length + 1) := by
  have hin : ∀ n, memS [(f, t)] n ↔ f ≤ n ∧ n ≤ t := fun n => by rw [memS_cons]; simp [memS_nil]
  have mpre : ∀ n, memS (l.take st) n → ∃ j, ∃ h : j < l.length, j < st ∧ l[j].1 ≤ n ∧ n ≤ l[j].2 := fun n h => by
    obtain ⟨j, hj, h3, h4⟩ := (memS_iff_get _ _).1 h
    have hj' : j < l.length ∧ j < st := by simp at hj; omega
    exact ⟨j, hj'.1, hj'.2, by simpa using h3, by simpa using h4⟩
  have mpost : ∀ n, memS (l.drop en) n → ∃ j, ∃ h : j < l.length, en ≤ j ∧ l[j].1 ≤ n ∧ n ≤ l[j].2 := fun n h => by
    obtain ⟨j, hj, h3, h4⟩ := (memS_iff_get _ _).1 h
    have hj' : en + j < l.length := by simp at hj; omega
    exact ⟨en + j, hj', by omega, by simpa using h3, by simpa using h4⟩
  have mmid : ∀ n, memS ((l.take en).drop st) n → ∃ j, ∃ h : j < l.length, st ≤ j ∧ j < en ∧ l[j].1 ≤ n ∧ n ≤ l[j].2 := fun n h => by
    obtain ⟨j, hj, h3, h4⟩ := (memS_iff_get _ _).1 h
    have hj' : st + j < l.length ∧ st + j < en := by simp at hj; omega
    exact ⟨st + j, hj'.1, by omega, hj'.2, by simpa using h3, by simpa using h4⟩
  have hsplit : l = l.take st ++ ((l.take en).drop st ++ l.drop en) := by
    have e1 : l.take en = l.take st ++ (l.take en).drop st := by
      have := (List.take_append_drop st (l.take en)).symm
      rwa [List.take_take, Nat.min_eq_left hse] at this
    have e2 := (List.take_append_drop en l).symm
    rw [← List.append_assoc, ← e1]
    exact e2
  have hall : ∀ n, memS l n ↔ memS (l.take st) n ∨ memS ((l.take en).drop st) n ∨ memS (l.drop en) n := fun n => by
    have : memS l n ↔ memS (l.take st ++ ((l.take en).drop st ++ l.drop en)) n := by rw [← hsplit]
    rw [this, memS_append, memS_append]
  have hmr : ∀ n, memS r n → memS ((l.take en).drop st) n ∨ (f ≤ n ∧ n ≤ t) := fun n h => by
    have h3 := (hm n).1 h
    by_cases h4 : memS ((l.take en).drop st) n
    · exact .inl h4
    · by_cases h5 : f ≤ n ∧ n ≤ t
      · exact .inr h5
      · exact absurd h3 (opM_none h4 (fun h => h5 ((hin n).1 h)))
  have self1 : ∀ {x : List Sp} {s : Sp}, canon x → s ∈ x → memS x s.1 ∧ memS x s.2 ∧ s.1 ≤ s.2 := fun {x s} hx hs => by
    obtain ⟨j, hj, rfl⟩ := List.getElem_of_mem hs
    have := canon_le_ hx hj
    exact ⟨⟨_, hs, Nat.le_refl _, this⟩, ⟨_, hs, this, Nat.le_refl _⟩, this⟩
  have hpr : ∀ s ∈ l.take st, ∀ n, memS r n → s.2 + 2 ≤ n := fun s hs n hn => by
    obtain ⟨i, hi, rfl⟩ := List.getElem_of_mem hs
    have hi' : i < l.length ∧ i < st := by simp at hi; omega
    have e : (l.take st)[i] = l[i]'hi'.1 := by simp
    rw [e]
    rcases hmr n hn with h | h
    · obtain ⟨j, hj, h3, h4, h5, h6⟩ := mmid n h
      have := canon_lt hc (a := i) (b := j) (by omega) hj
      omega
    · have := h1 i hi'.1 hi'.2; omega
  have hrp : ∀ t' ∈ l.drop en, ∀ n, memS r n → n + 2 ≤ t'.1 := fun s hs n hn => by
    obtain ⟨i, hi, rfl⟩ := List.getElem_of_mem hs
    have hi' : en + i < l.length := by simp at hi; omega
    have e : (l.drop en)[i] = l[en + i]'hi' := by simp
    rw [e]
    rcases hmr n hn with h | h
    · obtain ⟨j, hj, h3, h4, h5, h6⟩ := mmid n h
      have := canon_lt hc (a := j) (b := en + i) (by omega) hi'
      omega
    · have := h2 (en + i) hi' (by omega); omega
  have c1 : canon (l.take st ++ r) := canon_append (canon_take hc st) hr fun s hs t' ht' => hpr s hs _ (self1 hr ht').1
  refine ⟨canon_append c1 (canon_drop hc en) fun s hs t' ht' => ?_, fun n => ?_, ?_, ?_⟩
  · rcases List.mem_append.1 hs with hs | hs
    · obtain ⟨i, hi, rfl⟩ := List.getElem_of_mem hs
      obtain ⟨j, hj, rfl⟩ := List.getElem_of_mem ht'
      have hi' : i < l.length ∧ i < st := by simp at hi; omega
      have hj' : en + j < l.length := by simp at hj; omega
      have := canon_lt hc (a := i) (b := en + j) (by omega) hj'
      simpa using this
    · exact hrp t' ht' _ (self1 hr hs).2.1
  · rw [memS_append, memS_append, hm n]
    by_cases hp : memS (l.take st) n
    · obtain ⟨j, hj, h3, h4, h5⟩ := mpre n hp
      have h6 := h1 j hj h3
      have h7 : ¬ memS [(f, t)] n := fun h => by have := (hin n).1 h; omega
      have h8 : memS l n := (hall n).2 (.inl hp)
      refine ⟨fun _ => ?_, fun _ => .inl (.inl hp)⟩
      unfold opM
      rw [decide_eq_true h8, decide_eq_false h7]
      rcases hmode with rfl | rfl <;> rfl
    · by_cases hq : memS (l.drop en) n
      · obtain ⟨j, hj, h3, h4, h5⟩ := mpost n hq
        have h6 := h2 j hj h3
        have h7 : ¬ memS [(f, t)] n := fun h => by have := (hin n).1 h; omega
        have h8 : memS l n := (hall n).2 (.inr (.inr hq))
        refine ⟨fun _ => ?_, fun _ => .inr hq⟩
        unfold opM
        rw [decide_eq_true h8, decide_eq_false h7]
        rcases hmode with rfl | rfl <;> rfl
      · have e : memS ((l.take en).drop st) n ↔ memS l n := by
          rw [hall n]
          exact ⟨fun h => .inr (.inl h), fun h => by rcases h with h | h | h; exact absurd h hp; exact h; exact absurd h hq⟩
        have e2 : opM mode ((l.take en).drop st) [(f, t)] n ↔ opM mode l [(f, t)] n := by
          unfold opM
          rw [decide_eq_decide.2 e]
        rw [← e2]
        exact ⟨fun h => by rcases h with (h | h) | h; exact absurd h hp; exact h; exact absurd h hq, fun h => .inl (.inr h)⟩
  · exact u32s_append (u32s_append (fun s hs => hu s (List.mem_of_mem_take hs)) hur) fun s hs => hu s (List.mem_of_mem_drop hs)
  · simp at hlr ⊢; omega

end Go.Proofs.Ytpchjgeehejkeaa
