/-
  Rounds of subscriptions, without a program: rows of tags with credits, and which one was served last.
  Conditions: none.
-/
import Derived.Test.YtknfiiacalfelaaMapS
namespace Go.Proofs.Ytknfiiacalfelaa
set_option linter.unusedVariables false
set_option linter.unusedSimpArgs false

abbrev Tg := List UInt8
/-- A round: its subscriptions, and the tag of the one that was served last (none: no bytes). -/
structure CP where
  l : List (Tg × Nat)
  last : Tg
def isTag (t : Tg) : Prop := t ≠ [] ∧ t.length ≤ 40
instance (t : Tg) : Decidable (isTag t) := inferInstanceAs (Decidable (_ ∧ _))
structure CP.ok (s : CP) : Prop where
  tags : ∀ x ∈ s.l, isTag x.1
  cred : ∀ x ∈ s.l, x.2 ≤ 4294967295
  nod : (s.l.map (·.1)).Nodup
  last : s.last = [] ∨ ∃ x ∈ s.l, x.1 = s.last

def updA (t : Tg) (f : Nat → Nat) (l : List (Tg × Nat)) : List (Tg × Nat) := l.map fun y => if y.1 = t then (y.1, f y.2) else y
def prevA (t : Tg) : Tg → List (Tg × Nat) → Tg
  | p, [] => p
  | p, x :: r => if x.1 = t then p else prevA t x.1 r
def rotA (t : Tg) : List (Tg × Nat) → List (Tg × Nat) → List (Tg × Nat)
  | acc, [] => acc
  | acc, x :: r => if x.1 = t then r ++ (acc ++ [x]) else rotA t (acc ++ [x]) r
def usedC (c : Nat) : Nat := if c = 4294967295 then c else c - 1

def CP.add (s : CP) (t : Tg) : Nat × CP := if isTag t then (if (getA t s.l).isSome then (8, s) else (0, { s with l := s.l ++ [(t, 0)] })) else (2, s)
def CP.rm (s : CP) (t : Tg) : CP := ⟨delA t s.l, if s.last = t then prevA t [] s.l else s.last⟩
def CP.remove (s : CP) (t : Tg) : Nat × CP := if (getA t s.l).isSome then (0, s.rm t) else (7, s)
def CP.chg (s : CP) (t : Tg) (f : Nat → Nat) : Nat × CP := if (getA t s.l).isSome then (0, { s with l := updA t f s.l }) else (7, s)
def CP.give (s : CP) (t : Tg) (n : Nat) : Nat × CP := s.chg t fun c => min (c + n) 4294967295
def CP.stop (s : CP) (t : Tg) : Nat × CP := s.chg t fun _ => 0
def CP.credit (s : CP) (t : Tg) : Nat × Nat := match getA t s.l with | none => (0, 7) | some c => (c, 0)
def mayC (may : List Tg) (x : Tg × Nat) : Bool := decide (x.1 ∈ may) && decide (x.2 ≠ 0)
def CP.turn (s : CP) (may : List Tg) : (Tg × Bool) × CP :=
  match (rotA s.last [] s.l).find? (mayC may) with
  | none => (([], false), s)
  | some x => ((x.1, true), ⟨updA x.1 usedC s.l, x.1⟩)

section
variable {s : CP} {t : Tg} {l a b : List (Tg × Nat)} {x : Tg × Nat}
theorem rotA_mid (ha : ∀ y ∈ a, y.1 ≠ x.1) : ∀ acc, rotA x.1 acc (a ++ x :: b) = b ++ (acc ++ a ++ [x]) := by
  induction a with
  | nil => intro acc; simp [rotA]
  | cons y r ih =>
    intro acc
    have h1 := ha y (by simp)
    rw [List.cons_append, rotA, if_neg h1, ih (fun z hz => ha z (by simp [hz]))]
    simp
theorem rotA_none (h : ∀ y ∈ l, y.1 ≠ t) : ∀ acc, rotA t acc l = acc ++ l := by
  induction l with
  | nil => intro acc; simp [rotA]
  | cons y r ih =>
    intro acc
    rw [rotA, if_neg (h y (by simp)), ih (fun z hz => h z (by simp [hz]))]
    simp
theorem prevA_mid (ha : ∀ y ∈ a, y.1 ≠ x.1) : ∀ p, prevA x.1 p (a ++ x :: b) = ((a.map (·.1)).getLast?).getD p := by
  induction a with
  | nil => intro p; simp [prevA]
  | cons y r ih =>
    intro p
    rw [List.cons_append, prevA, if_neg (ha y (by simp)), ih (fun z hz => ha z (by simp [hz]))]
    cases r with
    | nil => rfl
    | cons z r => simp [List.getLast?_cons]
/-- Where a tag is, what is ahead of it has others. -/
theorem mid_nodup (hn : ((a ++ x :: b).map (·.1)).Nodup) : (∀ y ∈ a, y.1 ≠ x.1) ∧ ∀ y ∈ b, y.1 ≠ x.1 := by
  rw [List.map_append, List.map_cons, List.nodup_append, List.nodup_cons] at hn
  obtain ⟨_, ⟨h2, _⟩, h3⟩ := hn
  exact ⟨fun y hy e => h3 y.1 (List.mem_map.2 ⟨y, hy, rfl⟩) x.1 (by simp) e, fun y hy e => h2 (by rw [← e]; exact List.mem_map.2 ⟨y, hy, rfl⟩)⟩
theorem updA_none {f : Nat → Nat} (h : ∀ y ∈ l, y.1 ≠ t) : updA t f l = l := by
  unfold updA
  have e : ∀ y ∈ l, (if y.1 = t then (y.1, f y.2) else y) = id y := fun y hy => if_neg (h y hy)
  rw [List.map_congr_left e, List.map_id]
theorem updA_mid {f : Nat → Nat} (hn : ((a ++ x :: b).map (·.1)).Nodup) : updA x.1 f (a ++ x :: b) = a ++ (x.1, f x.2) :: b := by
  obtain ⟨h1, h2⟩ := mid_nodup hn
  have e1 := updA_none (f := f) h1
  have e2 := updA_none (f := f) h2
  unfold updA at e1 e2 ⊢
  rw [List.map_append, List.map_cons, e1, e2, if_pos rfl]
theorem delA_midC (hn : ((a ++ x :: b).map (·.1)).Nodup) : delA x.1 (a ++ x :: b) = a ++ b := by
  obtain ⟨h1, h2⟩ := mid_nodup hn
  have e1 := delA_none h1
  have e2 := delA_none h2
  unfold delA at e1 e2 ⊢
  rw [List.filter_append, List.filter_cons, if_neg (by simp), e1, e2]
theorem updA_tags (f : Nat → Nat) : (updA t f l).map (·.1) = l.map (·.1) := by
  unfold updA
  rw [List.map_map]
  refine List.map_congr_left fun y hy => ?_
  simp only [Function.comp_def]
  split <;> rfl
theorem updA_length (f : Nat → Nat) : (updA t f l).length = l.length := by simp [updA]
theorem mem_updA {f : Nat → Nat} {y : Tg × Nat} (h : y ∈ updA t f l) : ∃ z ∈ l, z.1 = y.1 ∧ (y.2 = f z.2 ∨ y.2 = z.2) := by
  obtain ⟨z, hz, rfl⟩ := List.mem_map.1 h
  refine ⟨z, hz, ?_⟩
  split <;> simp
theorem getA_split {l : List (Tg × Nat)} (h : (getA t l).isSome = true) : ∃ a x b, l = a ++ x :: b ∧ x.1 = t ∧ getA t l = some x.2 := by
  obtain ⟨c, hc⟩ := Option.isSome_iff_exists.1 h
  obtain ⟨a, b, e⟩ := List.append_of_mem (getA_mem hc)
  exact ⟨a, (t, c), b, e, rfl, hc⟩
theorem getA_no (h : ¬ (getA t l).isSome = true) : (∀ y ∈ l, y.1 ≠ t) ∧ getA t l = none := by
  have h2 : getA t l = none := by simpa using h
  exact ⟨getA_none_iff.1 h2, h2⟩
theorem CP.ok.lastAt (h : s.ok) : s.last = [] ∨ ∃ a x b, s.l = a ++ x :: b ∧ x.1 = s.last := by
  rcases h.last with h1 | ⟨x, hx, e⟩
  · exact .inl h1
  · obtain ⟨a, b, e2⟩ := List.append_of_mem hx
    exact .inr ⟨a, x, b, e2, e⟩
theorem CP.ok.add (h : s.ok) : (s.add t).2.ok := by
  unfold CP.add
  split
  · rename_i ht
    split
    · exact h
    · rename_i hn
      obtain ⟨h1, _⟩ := getA_no hn
      refine ⟨fun x hx => ?_, fun x hx => ?_, ?_, ?_⟩
      · rcases List.mem_append.1 hx with hx | hx
        · exact h.tags x hx
        · simp at hx; subst hx; exact ht
      · rcases List.mem_append.1 hx with hx | hx
        · exact h.cred x hx
        · simp at hx; subst hx; simp
      · show ((s.l ++ [(t, 0)]).map (fun x : Tg × Nat => x.1)).Nodup
        rw [List.map_append, List.nodup_append]
        refine ⟨h.nod, by simp, fun y hy z hz e => ?_⟩
        simp at hz
        obtain ⟨u, hu, rfl⟩ := List.mem_map.1 hy
        exact h1 u hu (e.trans hz)
      · rcases h.last with h2 | ⟨x, hx, e⟩
        · exact .inl h2
        · exact .inr ⟨x, List.mem_append.2 (.inl hx), e⟩
  · exact h
theorem getLast_getD {l : List Tg} : (l.getLast?).getD [] = [] ∨ ((l.getLast?).getD []) ∈ l := by
  cases h : l.getLast? with
  | none => exact .inl rfl
  | some y => exact .inr (List.mem_of_getLast? h)
theorem CP.ok.rm (h : s.ok) (ht : (getA t s.l).isSome = true) : (s.rm t).ok := by
  obtain ⟨a, x, b, e, rfl, _⟩ := getA_split ht
  have hn := h.nod
  rw [e] at hn
  have hd : (s.rm x.1).l = a ++ b := by show delA x.1 s.l = _; rw [e]; exact delA_midC hn
  have hm := mid_nodup hn
  refine ⟨fun y hy => h.tags y ?_, fun y hy => h.cred y ?_, delA_nodup h.nod, ?_⟩
  · exact delA_sub.subset hy
  · exact delA_sub.subset hy
  · show (if s.last = x.1 then prevA x.1 [] s.l else s.last) = [] ∨ ∃ y ∈ (s.rm x.1).l, y.1 = (if s.last = x.1 then prevA x.1 [] s.l else s.last)
    split
    · rw [e, prevA_mid hm.1]
      rcases getLast_getD (l := a.map (·.1)) with h1 | h1
      · exact .inl h1
      · obtain ⟨y, hy, e2⟩ := List.mem_map.1 h1
        exact .inr ⟨y, by rw [hd]; exact List.mem_append.2 (.inl hy), e2⟩
    · rename_i hne
      rcases h.last with h1 | ⟨y, hy, e2⟩
      · exact .inl h1
      · exact .inr ⟨y, mem_delA.2 ⟨hy, by rw [e2]; exact hne⟩, e2⟩
theorem CP.ok.remove (h : s.ok) : (s.remove t).2.ok := by
  unfold CP.remove
  split
  · rename_i ht; exact h.rm ht
  · exact h
theorem CP.ok.upd (h : s.ok) {f : Nat → Nat} (hf : ∀ c, c ≤ 4294967295 → f c ≤ 4294967295) {u : Tg} (hu : u = [] ∨ ∃ x ∈ s.l, x.1 = u) : (⟨updA t f s.l, u⟩ : CP).ok := by
  refine ⟨fun x hx => ?_, fun x hx => ?_, ?_, ?_⟩
  · obtain ⟨z, hz, e, _⟩ := mem_updA hx
    rw [← e]; exact h.tags z hz
  · obtain ⟨z, hz, _, e⟩ := mem_updA hx
    have := h.cred z hz
    rcases e with e | e <;> rw [e]
    · exact hf _ this
    · exact this
  · show ((updA t f s.l).map (·.1)).Nodup
    rw [updA_tags]; exact h.nod
  · rcases hu with h1 | ⟨x, hx, e⟩
    · exact .inl h1
    · refine .inr ?_
      have : x.1 ∈ (updA t f s.l).map (·.1) := by rw [updA_tags]; exact List.mem_map.2 ⟨x, hx, rfl⟩
      obtain ⟨y, hy, e2⟩ := List.mem_map.1 this
      exact ⟨y, hy, e2.trans e⟩
theorem CP.ok.chg (h : s.ok) {f : Nat → Nat} (hf : ∀ c, c ≤ 4294967295 → f c ≤ 4294967295) : (s.chg t f).2.ok := by
  unfold CP.chg
  split
  · exact h.upd hf h.last
  · exact h
theorem usedC_le {c : Nat} (h : c ≤ 4294967295) : usedC c ≤ 4294967295 := by unfold usedC; split <;> omega
theorem CP.ok.give (h : s.ok) (n : Nat) : (s.give t n).2.ok := h.chg fun c _ => by omega
theorem CP.ok.stop (h : s.ok) : (s.stop t).2.ok := h.chg fun c _ => by omega
theorem mem_rotA {y : Tg × Nat} : ∀ {acc}, y ∈ rotA t acc l → y ∈ acc ∨ y ∈ l := by
  induction l with
  | nil => intro acc h; exact .inl h
  | cons z r ih =>
    intro acc h
    unfold rotA at h
    split at h
    · simp at h ⊢; rcases h with h | h | h <;> simp [h]
    · rcases ih h with h | h
      · simp at h ⊢; rcases h with h | h <;> simp [h]
      · simp [h]
theorem CP.ok.turn (h : s.ok) (may : List Tg) : (s.turn may).2.ok := by
  unfold CP.turn
  split
  · exact h
  · rename_i x hx
    have hm := List.mem_of_find?_eq_some hx
    rcases mem_rotA hm with h1 | h1
    · simp at h1
    · exact h.upd (fun c hc => usedC_le hc) (.inr ⟨x, h1, rfl⟩)
theorem CP.ok.new : (⟨[], []⟩ : CP).ok := ⟨by simp, by simp, by simp, .inl rfl⟩
theorem add_len : (s.add t).2.l.length ≤ s.l.length + 1 := by
  unfold CP.add
  split
  · split <;> simp
  · simp
theorem remove_len : (s.remove t).2.l.length ≤ s.l.length := by
  unfold CP.remove
  split
  · exact (delA_sub (q := t) (L := s.l)).length_le
  · exact Nat.le_refl _
theorem chg_len {f : Nat → Nat} : (s.chg t f).2.l.length = s.l.length := by
  unfold CP.chg
  split
  · exact updA_length f
  · rfl
theorem turn_len (may : List Tg) : (s.turn may).2.l.length = s.l.length := by
  unfold CP.turn
  split
  · rfl
  · exact updA_length _
end

end Go.Proofs.Ytknfiiacalfelaa
