/-
  Texts, together: WkP, MapS, WkM.
  Conditions: none but sizes.
-/
import Derived.Test.YtpmafabphlejeaaGreatEnPZ
import Derived.Maps.RangeWalk
import Derived.Test.YtpmafabphlejeaaGreatMemZ
import Derived.ArgAppend
import Derived.DeepKeys3
import Derived.Test.YtpmafabphlejeaaGreatEnIZ
import Derived.Test.YtpmafabphlejeaaGreatEnCpZ
/-
  Without the program: works, which may be; what is added, what is done and prepared; the names of the queues.
  Conditions: none.
-/
namespace Go.Proofs.YtpmafabphlejeaaGreat
open Go.RowKit
set_option linter.unusedVariables false
set_option linter.unusedSimpArgs false

theorem refE_ext {a b : RefE} (h1 : a.q = b.q) (h2 : a.id = b.id) : a = b := by
  obtain ⟨q, i⟩ := a
  obtain ⟨r, j⟩ := b
  simp only at h1 h2
  rw [h1, h2]
instance refDec : DecidableEq RefE := fun a b => decidable_of_iff (a.q = b.q ∧ a.id = b.id) ⟨fun h => refE_ext h.1 h.2, fun h => h ▸ ⟨rfl, rfl⟩⟩

/-- May a work be. -/
def workV (ps : List PutE) (rs : List RefE) : Prop := ps.length ≤ 100 ∧ rs.length ≤ 100 ∧ (∀ p ∈ ps, putMay false p) ∧ (∀ r ∈ rs, refMay r = true) ∧ rs.Nodup
noncomputable def wB (ps : List PutE) (rs : List RefE) : Bool := by classical exact decide (workV ps rs)
theorem wB_iff {ps : List PutE} {rs : List RefE} : wB ps rs = true ↔ workV ps rs := by classical
  unfold wB
  exact decide_eq_true_iff
theorem wB_no {ps : List PutE} {rs : List RefE} (h : ¬ workV ps rs) : wB ps rs = false := by
  cases e : wB ps rs with
  | false => rfl
  | true => exact absurd (wB_iff.1 e) h
theorem wB_not {ps : List PutE} {rs : List RefE} (h : wB ps rs = false) : ¬ workV ps rs := fun hv => by rw [wB_iff.2 hv] at h; cases h
noncomputable def errW (ps : List PutE) (rs : List RefE) : Nat := if wB ps rs = true then 0 else 130
theorem errW_ok {ps : List PutE} {rs : List RefE} (h : wB ps rs = true) : errW ps rs = 0 := if_pos h
theorem errW_no {ps : List PutE} {rs : List RefE} (h : wB ps rs = false) : errW ps rs = 130 := if_neg (by rw [h]; decide)
theorem workV_nil : workV [] [] := ⟨by simp, by simp, fun p h => (by cases h), fun r h => (by cases h), List.nodup_nil⟩

/-- The entry that prepares, under a name. -/
def prepE (f : Nat) (g h : ByteArray) (ps : List PutE) (rs : List RefE) : EntE := ⟨4, ⟨#[]⟩, 0, f, g, h, ps, rs⟩
theorem prepE_valid {f : Nat} {g h : ByteArray} {ps : List PutE} {rs : List RefE} (hm : mayX g h) :
    validE (prepE f g h ps rs) ↔ (ps.length ≤ 100 ∧ rs.length ≤ 100 ∧ (∀ p ∈ ps, putMay false p) ∧ (∀ r ∈ rs, refMay r = true)) := by
  unfold validE nameIs numIs xidIs workIs workOK prepE
  rw [if_neg (show ¬ uName 4 = true by decide), if_neg (show ¬ uNum 4 = true by decide), if_pos (show uX 4 = true by decide), if_pos (show uWork 4 = true by decide)]
  have e : decide ((4 : Nat) = 3) = false := by decide
  simp only [e]
  exact ⟨fun h => h.2.2.2.2, fun h => ⟨(by first | trivial | decide), (by first | trivial | rfl), (by first | trivial | rfl), hm, h⟩⟩
theorem anyX : mayX ⟨#[97, 110, 121]⟩ ⟨#[]⟩ := ⟨by decide, by decide, by decide⟩
theorem workV_iff {ps : List PutE} {rs : List RefE} : workV ps rs ↔ (validE (prepE 0 ⟨#[97, 110, 121]⟩ ⟨#[]⟩ ps rs) ∧ rs.Nodup) := by
  rw [prepE_valid anyX]
  unfold workV
  exact ⟨fun h => ⟨⟨h.1, h.2.1, h.2.2.1, h.2.2.2.1⟩, h.2.2.2.2⟩, fun h => ⟨h.1.1, h.1.2.1, h.1.2.2.1, h.1.2.2.2, h.2⟩⟩

/-- The names that a set of them has. -/
def setR : List RefE → List RefE → List RefE
  | S, [] => S
  | S, r :: l => setR (if r ∈ S then S else S ++ [r]) l
theorem setR_snoc (r : RefE) : ∀ (l S : List RefE), setR S (l ++ [r]) = if r ∈ setR S l then setR S l else setR S l ++ [r]
  | [], S => rfl
  | x :: l, S => by
    rw [List.cons_append]
    show setR _ (l ++ [r]) = _
    rw [setR_snoc r l]
    rfl
theorem setR_props (l : List RefE) : ∀ n, n ≤ l.length → (∀ x, x ∈ setR [] (l.take n) ↔ x ∈ l.take n) ∧ (setR [] (l.take n)).Nodup ∧ (setR [] (l.take n)).length ≤ n ∧ ((setR [] (l.take n)).length = n ↔ (l.take n).Nodup)
  | 0, _ => by simp [setR]
  | n + 1, hn => by
    obtain ⟨h1, h2, h3, h4⟩ := setR_props l n (by omega)
    have hlt : n < l.length := by omega
    rw [List.take_succ_eq_append_getElem hlt, setR_snoc]
    by_cases hm : l[n] ∈ setR [] (l.take n)
    · rw [if_pos hm]
      have hm2 := (h1 _).1 hm
      refine ⟨fun x => ?_, h2, by omega, ⟨fun h => by omega, fun h => ?_⟩⟩
      · rw [h1, List.mem_append, List.mem_singleton]
        exact ⟨.inl, fun h => h.elim id fun e => e ▸ hm2⟩
      · rw [List.nodup_append] at h
        exact absurd rfl (h.2.2 _ hm2 _ (List.mem_singleton.2 rfl))
    · rw [if_neg hm]
      have hm2 : l[n] ∉ l.take n := fun h => hm ((h1 _).2 h)
      refine ⟨fun x => by rw [List.mem_append, List.mem_append, h1], ?_, by rw [List.length_append, List.length_singleton]; omega, ?_⟩
      · rw [List.nodup_append]
        refine ⟨h2, by simp, fun a ha b hb => ?_⟩
        rw [List.mem_singleton.1 hb]
        rintro rfl
        exact hm ha
      · rw [List.length_append, List.length_singleton, List.nodup_append]
        constructor
        · intro h
          refine ⟨h4.1 (by omega), by simp, fun a ha b hb => ?_⟩
          rw [List.mem_singleton.1 hb]
          rintro rfl
          exact hm2 ha
        · intro h
          have := h4.2 h.1
          omega
theorem setR_len (l : List RefE) : (setR [] l).length ≤ l.length ∧ ((setR [] l).length = l.length ↔ l.Nodup) := by
  have := setR_props l l.length (Nat.le_refl _)
  rw [List.take_length] at this
  exact ⟨this.2.2.1, this.2.2.2⟩

/-! ### what is added -/
noncomputable def errAP (ps : List PutE) (rs : List RefE) (p : PutE) : Nat := by
  classical exact if ¬ (workV ps rs ∧ putMay false p) then 130 else if 100 ≤ ps.length then 6 else 0
noncomputable def errAT (ps : List PutE) (rs : List RefE) (r : RefE) : Nat := by
  classical exact if ¬ (workV ps rs ∧ refMay r = true) then 130 else if r ∈ rs then 8 else if 100 ≤ rs.length then 6 else 0
theorem one_put {p : PutE} : workV [p] [] ↔ putMay false p := by
  unfold workV
  constructor
  · intro h; exact h.2.2.1 p (by simp)
  · intro h
    exact ⟨by simp, by simp, fun q hq => (by rw [List.mem_singleton.1 hq]; exact h), fun r hr => (by cases hr), List.nodup_nil⟩
theorem one_ref {r : RefE} : workV [] [r] ↔ refMay r = true := by
  unfold workV
  constructor
  · intro h; exact h.2.2.2.1 r (by simp)
  · intro h
    exact ⟨by simp, by simp, fun q hq => by (cases hq), fun q hq => (by rw [List.mem_singleton.1 hq]; exact h), by simp⟩
/-- How often a name is there. -/
def cntR (l : List RefE) (r : RefE) : Nat := (l.filter fun x => decide (x = r)).length
theorem cntR_le (l : List RefE) (r : RefE) : cntR l r ≤ l.length := List.length_filter_le _ _
theorem cntR_snoc (l : List RefE) (r : RefE) (n : Nat) (h : n < l.length) : cntR (l.take (n + 1)) r = cntR (l.take n) r + if l[n] = r then 1 else 0 := by
  unfold cntR
  rw [List.take_succ_eq_append_getElem h, List.filter_append, List.length_append]
  congr 1
  by_cases e : l[n] = r
  · rw [if_pos e]; simp [e]
  · rw [if_neg e]; simp [e]
theorem cntR_pos {l : List RefE} {r : RefE} : 0 < cntR l r ↔ r ∈ l := by
  unfold cntR
  rw [List.length_pos_iff_exists_mem]
  constructor
  · rintro ⟨x, hx⟩
    have := List.mem_filter.1 hx
    simp only [decide_eq_true_eq] at this
    exact this.2 ▸ this.1
  · intro h
    exact ⟨r, List.mem_filter.2 ⟨h, by simp⟩⟩
theorem cntR_count (l : List RefE) (r : RefE) : cntR l r = l.count r := by
  unfold cntR
  rw [List.count, List.countP_eq_length_filter]
  congr 1
theorem nodup_cnt {l : List RefE} : l.Nodup ↔ ∀ r ∈ l, cntR l r ≤ 1 := by
  rw [List.nodup_iff_count]
  constructor
  · intro h r _
    rw [cntR_count]; exact h r
  · intro h r
    by_cases hr : r ∈ l
    · have := h r hr
      rwa [cntR_count] at this
    · rw [List.count_eq_zero.2 hr]; omega

/-! ### what is done -/
def numE (n : Nat) : Nat → List PutE → List PutE
  | _, [] => []
  | k, p :: l => { p with id := n + k } :: numE n (k + 1) l
theorem numE_len (n : Nat) : ∀ (k : Nat) (l : List PutE), (numE n k l).length = l.length
  | _, [] => rfl
  | k, p :: l => by rw [numE, List.length_cons, List.length_cons, numE_len n (k + 1) l]
theorem numE_get (n : Nat) : ∀ (k : Nat) (l : List PutE) (j : Nat) (h : j < l.length), (numE n k l)[j]'(by rw [numE_len]; exact h) = { l[j] with id := n + (k + j) }
  | k, p :: l, 0, h => rfl
  | k, p :: l, j + 1, h => by
    have := numE_get n (k + 1) l j (by simpa using h)
    simp only [numE, List.getElem_cons_succ]
    rw [this, Nat.add_right_comm, Nat.add_assoc]
/-- Are there numbers. -/
def hasNum (k n : Nat) : Bool := decide (k = 0 ∨ (1 ≤ n ∧ n ≤ 1099511627776 ∧ k - 1 ≤ 1099511627776 - n))
noncomputable def errD (ps : List PutE) (rs : List RefE) (n : Nat) : Nat := if wB ps rs = false then 130 else if hasNum ps.length n = false then 6 else 0
def doE (ps : List PutE) (rs : List RefE) (n : Nat) : EntE := ⟨3, ⟨#[]⟩, 0, 0, ⟨#[]⟩, ⟨#[]⟩, numE n 0 ps, rs⟩
noncomputable def doneE (ps : List PutE) (rs : List RefE) (n : Nat) : EntE := if errD ps rs n = 0 then doE ps rs n else zE
noncomputable def errP2 (ps : List PutE) (rs : List RefE) (g h : ByteArray) : Nat := by classical exact if wB ps rs = false then 130 else if ¬ mayX g h then 40 else 0
noncomputable def prepdE (ps : List PutE) (rs : List RefE) (f : Nat) (g h : ByteArray) : EntE := if errP2 ps rs g h = 0 then prepE f g h ps rs else zE
theorem numE_may {n : Nat} {ps : List PutE} (hp : ∀ p ∈ ps, putMay false p) (hn : hasNum ps.length n = true) : ∀ p ∈ numE n 0 ps, putMay true p := by
  intro p hpm
  obtain ⟨j, hj, rfl⟩ := List.getElem_of_mem hpm
  rw [numE_len] at hj
  rw [numE_get n 0 ps j hj]
  have h1 := hp _ (List.getElem_mem hj)
  refine ⟨?_, h1.2⟩
  unfold putNum
  rw [if_pos rfl]
  unfold msgOK
  unfold hasNum at hn
  rw [decide_eq_true_eq] at hn ⊢
  simp only []
  omega
theorem doE_valid {ps : List PutE} {rs : List RefE} {n : Nat} (h : errD ps rs n = 0) : validE (doE ps rs n) := by
  unfold errD at h
  split at h
  · cases h
  split at h
  · cases h
  rename_i h1 h2
  have hv := wB_iff.1 (by cases e : wB ps rs with | true => rfl | false => exact absurd e h1)
  have hn : hasNum ps.length n = true := by cases e : hasNum ps.length n with | true => rfl | false => exact absurd e h2
  unfold validE nameIs numIs xidIs workIs workOK doE
  rw [if_neg (show ¬ uName 3 = true by decide), if_neg (show ¬ uNum 3 = true by decide), if_neg (show ¬ uX 3 = true by decide), if_pos (show uWork 3 = true by decide), numE_len]
  exact ⟨(show kindOK 3 = true by decide), rfl, rfl, ⟨rfl, rfl, rfl⟩, hv.1, hv.2.1, numE_may hv.2.2.1 hn, hv.2.2.2.1⟩
theorem prepdE_valid {ps : List PutE} {rs : List RefE} {f : Nat} {g h : ByteArray} (he : errP2 ps rs g h = 0) : validE (prepE f g h ps rs) := by
  classical
  unfold errP2 at he
  split at he
  · cases he
  split at he
  · cases he
  rename_i h1 h2
  have hv := wB_iff.1 (by cases e : wB ps rs with | true => rfl | false => exact absurd e h1)
  exact (prepE_valid (by by_cases e : mayX g h; exact e; exact absurd e h2)).2 ⟨hv.1, hv.2.1, hv.2.2.1, hv.2.2.2.1⟩

end Go.Proofs.YtpmafabphlejeaaGreat
/-
  Maps by their entries in a row, whatever the keys and the elements; a range over one.
  Conditions: none.
-/
namespace Go.Proofs.YtpmafabphlejeaaGreat
open Go.RowKit Go.MapKept
open Go.ChangeMaps (setBlock heap_setBlock_same heap_setBlock_other modify_eq_set)
set_option linter.unusedVariables false
set_option linter.unusedSimpArgs false

/-- How keys lie. -/
structure KeyFam (P : Program) (K : TypeId) (κ : Type) where
  kv : κ → Value
  ok : κ → Prop
  law : Maps.Keyed P K
  lit : ∀ q, ok q → ∃ l, keyOf P K (kv q) = some l
  inj : ∀ p q, kv p = kv q → p = q

section
variable {κ α : Type}
theorem key_notMem {q : κ} {L : List (κ × α)} : q ∉ L.map (·.1) ↔ ∀ x ∈ L, x.1 ≠ q := by
  constructor
  · intro h x hx e
    exact h (List.mem_map.2 ⟨x, hx, e⟩)
  · intro h hm
    obtain ⟨x, hx, e⟩ := List.mem_map.1 hm
    exact h x hx e
variable [DecidableEq κ]
def getA (q : κ) : List (κ × α) → Option α
  | [] => none
  | x :: r => if x.1 = q then some x.2 else getA q r
def putA (q : κ) (v : α) : List (κ × α) → List (κ × α)
  | [] => [(q, v)]
  | x :: r => if x.1 = q then (q, v) :: r else x :: putA q v r
def delA (q : κ) (L : List (κ × α)) : List (κ × α) := L.filter fun x => decide (x.1 ≠ q)
theorem getA_none {q : κ} : ∀ {L : List (κ × α)}, (∀ x ∈ L, x.1 ≠ q) → getA q L = none
  | [], _ => rfl
  | x :: r, h => by rw [getA, if_neg (h x (by simp))]; exact getA_none fun y hy => h y (by simp [hy])
theorem putA_none {q : κ} {v : α} : ∀ {L : List (κ × α)}, (∀ x ∈ L, x.1 ≠ q) → putA q v L = L ++ [(q, v)]
  | [], _ => rfl
  | x :: r, h => by rw [putA, if_neg (h x (by simp)), putA_none fun y hy => h y (by simp [hy])]; rfl
theorem delA_none {q : κ} {L : List (κ × α)} (h : ∀ x ∈ L, x.1 ≠ q) : delA q L = L := by
  unfold delA
  rw [List.filter_eq_self]
  intro x hx
  simpa using h x hx
theorem at_someA {q : κ} {v : α} : ∀ {L : List (κ × α)} {j : Nat}, (L.map (·.1)).Nodup → L[j]? = some (q, v) → getA q L = some v ∧ (∀ u, putA q u L = L.set j (q, u)) ∧ delA q L = L.eraseIdx j
  | [], _, _, h => by simp at h
  | x :: r, 0, hn, h => by
    simp at h
    subst h
    rw [List.map_cons, List.nodup_cons] at hn
    have := key_notMem.1 hn.1
    refine ⟨by simp [getA], fun u => by simp [putA], ?_⟩
    have e := delA_none this
    unfold delA at e ⊢
    rw [List.filter_cons, if_neg (by simp), e]
    rfl
  | x :: r, j + 1, hn, h => by
    simp at h
    rw [List.map_cons, List.nodup_cons] at hn
    have hne : x.1 ≠ q := by
      intro e
      refine hn.1 ?_
      rw [e]
      exact List.mem_map.2 ⟨_, List.mem_of_getElem? h, rfl⟩
    obtain ⟨h1, h2, h3⟩ := at_someA hn.2 h
    refine ⟨by rw [getA, if_neg hne]; exact h1, fun u => by rw [putA, if_neg hne, h2]; rfl, ?_⟩
    unfold delA at h3 ⊢
    rw [List.filter_cons, if_pos (by simpa using hne), h3]
    rfl
theorem getA_mem {q : κ} {v : α} : ∀ {L : List (κ × α)}, getA q L = some v → (q, v) ∈ L
  | [], h => by simp [getA] at h
  | x :: r, h => by
    unfold getA at h
    split at h
    · rename_i e; cases h; rw [← e]; simp
    · exact List.mem_cons_of_mem _ (getA_mem h)
theorem getA_of_mem {q : κ} {v : α} {L : List (κ × α)} (hn : (L.map (·.1)).Nodup) (h : (q, v) ∈ L) : getA q L = some v := by
  obtain ⟨j, hj⟩ := List.mem_iff_getElem?.1 h
  exact (at_someA hn hj).1
theorem getA_none_iff {q : κ} : ∀ {L : List (κ × α)}, getA q L = none ↔ ∀ x ∈ L, x.1 ≠ q
  | [] => by simp [getA]
  | x :: r => by
    unfold getA
    by_cases e : x.1 = q
    · rw [if_pos e]; simp [e]
    · rw [if_neg e, getA_none_iff]; simp [e]
theorem putA_perm {q : κ} {v : α} : ∀ {L : List (κ × α)}, (L.map (·.1)).Nodup → (putA q v L).Perm ((q, v) :: delA q L)
  | [], _ => by simp [putA, delA]
  | x :: r, hn => by
    rw [List.map_cons, List.nodup_cons] at hn
    unfold putA
    by_cases e : x.1 = q
    · have h0 : delA q r = r := delA_none (key_notMem.1 (by rw [← e]; exact hn.1))
      rw [if_pos e]
      have : delA q (x :: r) = r := by
        unfold delA at h0 ⊢
        rw [List.filter_cons, if_neg (by simpa using e), h0]
      rw [this]
    · rw [if_neg e]
      have : delA q (x :: r) = x :: delA q r := by
        unfold delA
        rw [List.filter_cons, if_pos (by simpa using e)]
      rw [this]
      exact ((putA_perm hn.2).cons x).trans (List.Perm.swap _ _ _)
theorem putA_map {β : Type} (g : α → β) (q : κ) (v : α) : ∀ L : List (κ × α), putA q (g v) (L.map fun x => (x.1, g x.2)) = (putA q v L).map fun x => (x.1, g x.2)
  | [] => rfl
  | x :: r => by
    simp only [List.map_cons, putA]
    split
    · rfl
    · rw [List.map_cons, putA_map g q v r]
theorem getA_map {β : Type} (g : α → β) (q : κ) : ∀ L : List (κ × α), getA q (L.map fun x => (x.1, g x.2)) = (getA q L).map g
  | [] => rfl
  | x :: r => by
    simp only [List.map_cons, getA]
    split
    · rfl
    · exact getA_map g q r
theorem delA_map {β : Type} (g : α → β) (q : κ) (L : List (κ × α)) : delA q (L.map fun x => (x.1, g x.2)) = (delA q L).map fun x => (x.1, g x.2) := by
  unfold delA
  rw [List.filter_map]
  rfl
theorem delA_sub {q : κ} {L : List (κ × α)} : (delA q L).Sublist L := List.filter_sublist
theorem mem_delA {q : κ} {L : List (κ × α)} {x : κ × α} : x ∈ delA q L ↔ x ∈ L ∧ x.1 ≠ q := by simp [delA]
theorem delA_nodup {q : κ} {L : List (κ × α)} (h : (L.map (·.1)).Nodup) : ((delA q L).map (·.1)).Nodup := (delA_sub.map _).nodup h
theorem mem_putA {q : κ} {v : α} {L : List (κ × α)} (hn : (L.map (·.1)).Nodup) {y : κ × α} : y ∈ putA q v L ↔ y = (q, v) ∨ (y ∈ L ∧ y.1 ≠ q) := by
  rw [(putA_perm hn).mem_iff, List.mem_cons, mem_delA]
theorem putA_nodup {q : κ} {v : α} {L : List (κ × α)} (h : (L.map (·.1)).Nodup) : ((putA q v L).map (·.1)).Nodup := by
  rw [((putA_perm h).map _).nodup_iff, List.map_cons, List.nodup_cons]
  exact ⟨key_notMem.2 fun x hx => (mem_delA.1 hx).2, delA_nodup h⟩
theorem getA_perm {q : κ} {L M : List (κ × α)} (h : L.Perm M) (hn : (L.map (·.1)).Nodup) : getA q L = getA q M := by
  cases e : getA q L with
  | none =>
    symm
    rw [getA_none_iff] at e ⊢
    intro x hx
    exact e x (h.mem_iff.2 hx)
  | some v => exact (getA_of_mem ((h.map _).nodup_iff.1 hn) (h.mem_iff.1 (getA_mem e))).symm
theorem delA_perm {q : κ} {L M : List (κ × α)} (h : L.Perm M) : (delA q L).Perm (delA q M) := h.filter _
theorem putA_length {q : κ} {v : α} : ∀ {L : List (κ × α)}, (putA q v L).length ≤ L.length + 1
  | [] => by simp [putA]
  | x :: r => by
    unfold putA
    split
    · simp
    · simp only [List.length_cons]; have := putA_length (q := q) (v := v) (L := r); omega
end

variable {P : Program} {T K E : TypeId} {κ : Type}

/-- Block b is a map with just these entries. -/
def MapS (fam : KeyFam P K κ) (w : World) (b : Nat) (L : List (κ × Value)) : Prop :=
  (∃ es clock, w.heap[b]? = some (.map es clock) ∧ Stamped es clock ∧ es.toList.map (fun e => (e.key, e.val)) = L.map (fun x => (fam.kv x.1, x.2))) ∧ (∀ x ∈ L, fam.ok x.1) ∧ (L.map (·.1)).Nodup

/-- Block r goes through the map b; these entries are still to come. -/
def RangS (fam : KeyFam P K κ) (w : World) (b r : Nat) (L left : List (κ × Value)) : Prop :=
  (∃ es clock since seen c0, w.heap[b]? = some (.map es clock) ∧ Stamped es clock ∧ es.toList.map (fun e => (e.key, e.val)) = L.map (fun x => (fam.kv x.1, x.2)) ∧
    w.heap[r]? = some (.mapIter (some b) since seen c0) ∧ (∀ x ∈ es.toList, x.born < since) ∧ since ≤ c0 ∧ since ≤ clock ∧ (es.toList.filter fun e => !seen.contains e.born).map (fun e => (e.key, e.val)) = left.map (fun x => (fam.kv x.1, x.2))) ∧ (∀ x ∈ L, fam.ok x.1) ∧ (L.map (·.1)).Nodup

section
variable {fam : KeyFam P K κ} {w w' : World} {b r : Nat} {L left : List (κ × Value)}
theorem MapS.lt (h : MapS fam w b L) : b < w.heap.size := by
  obtain ⟨⟨es, clock, hb, _⟩, _⟩ := h
  exact (Array.getElem?_eq_some_iff.1 hb).1
theorem MapS.keep (h : MapS fam w b L) (hk : w'.heap[b]? = w.heap[b]?) : MapS fam w' b L := by
  obtain ⟨⟨es, clock, hb, he⟩, r⟩ := h
  exact ⟨⟨es, clock, hk.trans hb, he⟩, r⟩
theorem MapS.new (fam : KeyFam P K κ) (w : World) : MapS fam (w.alloc (.map #[] 0)) w.heap.size [] := ⟨⟨#[], 0, heap_alloc_new w _, stamped_empty 0, rfl⟩, by simp, by simp⟩
theorem MapS.neCells (h : MapS fam w b L) {k : Nat} {cs : Array Value} {e : TypeId} {fr : Nat × Nat} (hk : w.heap[k]? = some (.cells cs e fr)) : k ≠ b := by
  rintro rfl
  obtain ⟨⟨es, clock, hb, _⟩, _⟩ := h
  rw [hb] at hk
  injection hk with hk
  cases hk
theorem RangS.map (h : RangS fam w b r L left) : MapS fam w b L := by
  obtain ⟨⟨es, clock, since, seen, c0, hb, hs, he, _⟩, r⟩ := h
  exact ⟨⟨es, clock, hb, hs, he⟩, r⟩
theorem RangS.lt (h : RangS fam w b r L left) : r < w.heap.size := by
  obtain ⟨⟨es, clock, since, seen, c0, hb, hs, he, hr, _⟩, _⟩ := h
  exact (Array.getElem?_eq_some_iff.1 hr).1
theorem RangS.ne (h : RangS fam w b r L left) : r ≠ b := by
  obtain ⟨⟨es, clock, since, seen, c0, hb, hs, he, hr, _⟩, _⟩ := h
  intro e
  rw [e, hb] at hr
  cases hr
theorem RangS.keep (h : RangS fam w b r L left) (hb' : w'.heap[b]? = w.heap[b]?) (hr' : w'.heap[r]? = w.heap[r]?) : RangS fam w' b r L left := by
  obtain ⟨⟨es, clock, since, seen, c0, hb, hs, he, hr, rest⟩, o⟩ := h
  exact ⟨⟨es, clock, since, seen, c0, hb'.trans hb, hs, he, hr'.trans hr, rest⟩, o⟩
theorem RangS.left_eq (h : RangS fam w b r L left) : w.rangeLeft b r = left.length := by
  obtain ⟨⟨es, clock, since, seen, c0, hb, hs, he, hr, _, _, _, hl⟩, _⟩ := h
  simp only [World.rangeLeft, hb, hr, leftOf]
  have := congrArg List.length hl
  simp only [List.length_map] at this
  rw [← this, ← Array.toList_filter, Array.length_toList]

/-- 'range m'. -/
theorem MapS.range (h : MapS fam w b L) (ht : P.underlying T = some (.map K E)) :
    (Instr.range T (.map (some b))).run P w = .ok (.pointer (some ⟨w.heap.size, 0, none⟩)) (w.alloc (.mapIter (some b) ((w.heap[b]?.map fun o => match o with | .map _ c => c | _ => 0).getD 0) #[] ((w.heap[b]?.map fun o => match o with | .map _ c => c | _ => 0).getD 0))) ∧
    RangS fam (w.alloc (.mapIter (some b) ((w.heap[b]?.map fun o => match o with | .map _ c => c | _ => 0).getD 0) #[] ((w.heap[b]?.map fun o => match o with | .map _ c => c | _ => 0).getD 0))) b w.heap.size L L := by
  have hlt := h.lt
  obtain ⟨⟨es, clock, hb, hs, he⟩, o⟩ := h
  have e1 : ((w.heap[b]?.map fun o => match o with | .map _ c => c | _ => 0).getD 0) = clock := by rw [hb]; rfl
  rw [e1]
  refine ⟨run_range_map w T K E b es clock ht hb, ⟨es, clock, clock, #[], clock, ?_, hs, he, heap_alloc_new w _, (stamped_iff es clock).1 hs |>.1, Nat.le_refl _, Nat.le_refl _, ?_⟩, o⟩
  · rw [heap_alloc_old w _ hlt]; exact hb
  · rw [List.filter_eq_self.2 (fun x _ => by simp)]; exact he

theorem map_split {β γ : Type} {f : β → γ} : ∀ {l : List β} {l1 l2 : List γ} {y : γ}, l.map f = l1 ++ y :: l2 → ∃ a x c, l = a ++ x :: c ∧ a.map f = l1 ∧ f x = y ∧ c.map f = l2 := by
  intro l l1 l2 y h
  obtain ⟨a, r, rfl, ha, hr⟩ := List.map_eq_append_iff.1 h
  obtain ⟨x, c, rfl, hx, hc⟩ := List.map_eq_cons_iff.1 hr
  exact ⟨a, x, c, rfl, ha, hx, hc⟩

/-- The next entry, whichever. -/
theorem RangS.next (h : RangS fam w b r L left) (ty : TypeId) :
    (left = [] ∧ (Instr.next (.pointer (some ⟨r, 0, none⟩)) false ty).run P w = .ok (.tuple #[.bool false]) w) ∨
    ∃ l1 x l2 w', left = l1 ++ x :: l2 ∧ x ∈ L ∧ (Instr.next (.pointer (some ⟨r, 0, none⟩)) false ty).run P w = .ok (.tuple #[.bool true, fam.kv x.1, x.2]) w' ∧
      RangS fam w' b r L (l1 ++ l2) ∧ w.grownBy w' (some r) ∧ w'.heap.size = w.heap.size ∧ (Instr.entry (.pointer (some ⟨r, 0, none⟩))).run P w' = .ok (.tuple #[fam.kv x.1, x.2]) w' := by
  have hne := h.ne
  obtain ⟨⟨es, clock, since, seen, c0, hb, hs, he, hr, hold, hsc, hsk, hl⟩, hok, hnd⟩ := h
  have eL : (leftOf es seen).toList = es.toList.filter fun e => !seen.contains e.born := by simp [leftOf]
  rcases run_next_at (P := P) w ty r b since c0 seen es clock hr hb hold hsc with ⟨h0, hrun⟩ | ⟨e, hem, w1, hal, hrun⟩
  · refine Or.inl ⟨?_, hrun⟩
    have : (leftOf es seen).toList = [] := by rw [Array.toList_eq_nil_iff]; exact Array.eq_empty_of_size_eq_zero h0
    rw [← eL, this] at hl
    exact List.map_eq_nil_iff.1 hl.symm
  · obtain ⟨hees, hes⟩ := mem_left hem
    rw [eL] at hem
    obtain ⟨F1, F2, hF⟩ := List.append_of_mem hem
    rw [hF, List.map_append, List.map_cons] at hl
    obtain ⟨l1, x, l2, rfl, h1, h2, h3⟩ := map_split hl.symm
    have hxL : x ∈ L := by
      have : (e.key, e.val) ∈ L.map (fun x => (fam.kv x.1, x.2)) := by rw [← he]; exact List.mem_map.2 ⟨e, hees, rfl⟩
      obtain ⟨y, hy, hye⟩ := List.mem_map.1 this
      rw [← h2] at hye
      simp at hye
      have : y = x := Prod.ext (fam.inj _ _ hye.1) hye.2
      exact this ▸ hy
    simp at h2
    have hr1 : w1.heap[r]? = some (.mapIter (some b) since seen c0) := by rcases hal with rfl | rfl <;> exact hr
    have hb1 : w1.heap[b]? = some (.map es clock) := by rcases hal with rfl | rfl <;> exact hb
    have hset := heap_set (o' := .mapIter (some b) since (seen.push e.born) clock) hr1
    have hb' : (setBlock w1 r (.mapIter (some b) since (seen.push e.born) clock)).heap[b]? = some (.map es clock) := (hset.2 b (fun e1 => hne e1.symm)).trans hb1
    have hbn := ((stamped_iff es clock).1 hs).2.1
    refine Or.inr ⟨l1, x, l2, _, rfl, hxL, by rw [h2.1, h2.2]; exact hrun, ⟨⟨es, clock, since, seen.push e.born, clock, hb', hs, he, hset.1, hold, hsk, hsk, ?_⟩, hok, hnd⟩, ?_, ?_, by rw [h2.1, h2.2]; exact run_entry_at _ r b since seen es clock e hset.1 hb' hees hbn⟩
    · have e1 : (es.toList.filter fun x => !(seen.push e.born).contains x.born) = (es.toList.filter fun x => !seen.contains x.born).filter fun x => decide (x.born ≠ e.born) := by
        rw [List.filter_filter]
        refine List.filter_congr fun y _ => ?_
        rw [contains_push]
        cases seen.contains y.born <;> by_cases hy : y.born = e.born <;> simp [hy]
      have hnF : ((F1 ++ e :: F2).map (·.born)).Nodup := by
        rw [← hF]
        exact (List.filter_sublist.map _).nodup hbn
      rw [e1, hF, List.filter_append, List.filter_cons, if_neg (by simp)]
      rw [List.map_append, List.map_cons, List.nodup_append] at hnF
      obtain ⟨n1, n2, n3⟩ := hnF
      rw [List.nodup_cons] at n2
      rw [List.filter_eq_self.2 (fun y hy => by simpa using n3 y.born (List.mem_map.2 ⟨y, hy, rfl⟩) e.born (by simp)), List.filter_eq_self.2 (fun y hy => by
        have : y.born ≠ e.born := fun e2 => n2.1 (by rw [← e2]; exact List.mem_map.2 ⟨y, hy, rfl⟩)
        simpa using this), List.map_append, List.map_append, ← h1, ← h3]
    · rcases hal with rfl | rfl <;> exact ⟨rfl, rfl, rfl, by simp [setBlock], fun i _ hi => hset.2 i (fun e1 => hi (by rw [e1]))⟩
    · rcases hal with rfl | rfl <;> simp [setBlock]

/-- What a look-up finds. -/
theorem MapS.find (h : MapS fam w b L) {q : κ} (hq : fam.ok q) : ∃ es clock, w.heap[b]? = some (.map es clock) ∧ Stamped es clock ∧ es.toList.map (fun e => (e.key, e.val)) = L.map (fun x => (fam.kv x.1, x.2)) ∧
    (((Instr.findKey K (fam.kv q) es.toList).run P w = .ok none w ∧ (∀ x ∈ L, x.1 ≠ q) ∧ ∀ x ∈ es.toList, x.key ≠ fam.kv q) ∨ ∃ j e v, (Instr.findKey K (fam.kv q) es.toList).run P w = .ok (some (j, v)) w ∧ es[j]? = some e ∧ e.key = fam.kv q ∧ e.val = v ∧ L[j]? = some (q, v)) := by
  obtain ⟨⟨es, clock, hb, hst, he⟩, hs, hn⟩ := h
  refine ⟨es, clock, hb, hst, he, ?_⟩
  obtain ⟨l, hl⟩ := fam.lit q hq
  have hkeys : ∀ e ∈ es.toList, ∃ x ∈ L, e.key = fam.kv x.1 ∧ e.val = x.2 := fun e hm => by
    have : (e.key, e.val) ∈ L.map (fun x => (fam.kv x.1, x.2)) := by rw [← he]; exact List.mem_map.2 ⟨e, hm, rfl⟩
    obtain ⟨x, hx, hxe⟩ := List.mem_map.1 this
    simp at hxe
    exact ⟨x, hx, hxe.1.symm, hxe.2.symm⟩
  rcases fam.law.find w hl es.toList (fun e hm => by obtain ⟨x, hx, h1, _⟩ := hkeys e hm; rw [h1]; exact fam.lit _ (hs x hx)) with ⟨h1, h2⟩ | ⟨j, e, h1, h2, h3⟩
  · refine .inl ⟨h1, fun x hx e => ?_, h2⟩
    have : (fam.kv x.1, x.2) ∈ es.toList.map (fun e => (e.key, e.val)) := by rw [he]; exact List.mem_map.2 ⟨x, hx, rfl⟩
    obtain ⟨y, hy, hye⟩ := List.mem_map.1 this
    simp at hye
    exact h2 y hy (by rw [hye.1, e])
  · have hj : (es.toList.map (fun e => (e.key, e.val)))[j]? = some (e.key, e.val) := by rw [List.getElem?_map, h2]; rfl
    rw [he, List.getElem?_map] at hj
    cases hLj : L[j]? with
    | none => rw [hLj] at hj; cases hj
    | some x =>
      rw [hLj] at hj
      simp at hj
      have hx : x.1 = q := fam.inj _ _ (hj.1.trans h3)
      refine .inr ⟨j, e, e.val, h1, by simpa using h2, h3, rfl, ?_⟩
      rw [hLj, ← hj.2, ← hx]

/-- 'len(m)'. -/
theorem MapS.len (h : MapS fam w b L) (ht : P.underlying T = some (.map K E)) (ty : TypeId) : (Builtin.len_ #[T] ty #[.map (some b)]).run P w = .ok (.int .i64 L.length) w := by
  obtain ⟨⟨es, clock, hb, _, he⟩, _⟩ := h
  have : es.size = L.length := by
    have := congrArg List.length he
    simpa using this
  simp [Builtin.len_, run_underlying ht, MapKept.run_getObj_map hb, goInt, Result.andThen, this]

variable [DecidableEq κ]
/-- 'v, is := m[k]'. -/
theorem MapS.look (h : MapS fam w b L) (ht : P.underlying T = some (.map K E)) {q : κ} (hq : fam.ok q) {z : Value} (hz : (zeroValue E).run P w = .ok z w) :
    (Instr.lookup T (.map (some b)) (fam.kv q) true).run P w = .ok (.tuple #[(getA q L).getD z, .bool (getA q L).isSome]) w := by
  obtain ⟨l, hl⟩ := fam.lit q hq
  have hn := h.2.2
  obtain ⟨es, clock, hb, _, he, hf⟩ := h.find hq
  have hc := fun em => fam.law.check w em hl
  rcases hf with ⟨h1, h2, _⟩ | ⟨j, e, v, h1, h2, h3, h4, h5⟩
  · rw [getA_none h2]
    simp [Instr.lookup, run_underlying ht, MapKept.run_getObj_map hb, hc, h1, hz, Result.andThen]
  · rw [(at_someA hn h5).1]
    simp [Instr.lookup, run_underlying ht, MapKept.run_getObj_map hb, hc, h1, Result.andThen]
/-- 'm[k]'. -/
theorem MapS.look1 (h : MapS fam w b L) (ht : P.underlying T = some (.map K E)) {q : κ} (hq : fam.ok q) {z : Value} (hz : (zeroValue E).run P w = .ok z w) :
    (Instr.lookup T (.map (some b)) (fam.kv q) false).run P w = .ok ((getA q L).getD z) w := by
  obtain ⟨l, hl⟩ := fam.lit q hq
  have hn := h.2.2
  obtain ⟨es, clock, hb, _, he, hf⟩ := h.find hq
  have hc := fun em => fam.law.check w em hl
  rcases hf with ⟨h1, h2, _⟩ | ⟨j, e, v, h1, h2, h3, h4, h5⟩
  · rw [getA_none h2]
    simp [Instr.lookup, run_underlying ht, MapKept.run_getObj_map hb, hc, h1, hz, Result.andThen]
  · rw [(at_someA hn h5).1]
    simp [Instr.lookup, run_underlying ht, MapKept.run_getObj_map hb, hc, h1, Result.andThen]

/-- 'm[k] = v'. -/
theorem MapS.store (h : MapS fam w b L) (ht : P.underlying T = some (.map K E)) {q : κ} (hq : fam.ok q) (v : Value) :
    ∃ w', (Instr.mapUpdate T (.map (some b)) (fam.kv q) v).run P w = .ok () w' ∧ MapS fam w' b (putA q v L) ∧ w.grownBy w' (some b) ∧ w'.heap.size = w.heap.size := by
  obtain ⟨l, hl⟩ := fam.lit q hq
  have hn := h.2.2
  have hs := h.2.1
  obtain ⟨es, clock, hb, hst, he, hf⟩ := h.find hq
  have hc := fun em => fam.law.check w em hl
  have hgrow : ∀ o, w.grownBy (setBlock w b o) (some b) := fun o => ⟨rfl, rfl, rfl, by simp [setBlock], fun i _ hi => heap_setBlock_other hb _ (fun e => hi (by rw [e]))⟩
  have hsm : ∀ x ∈ putA q v L, fam.ok x.1 := fun x hx => by
    rcases (mem_putA hn).1 hx with rfl | ⟨hx, _⟩
    · exact hq
    · exact hs x hx
  rcases hf with ⟨h1, h2, h2'⟩ | ⟨j, e, u, h1, h2, h3, h4, h5⟩
  · refine ⟨setBlock w b (.map (es.push ⟨fam.kv q, v, clock⟩) (clock + 1)), ?_, ⟨⟨_, _, heap_setBlock_same hb _, stamped_push hst h2', ?_⟩, hsm, putA_nodup hn⟩, hgrow _, by simp [setBlock]⟩
    · simp [Instr.mapUpdate, run_underlying ht, MapKept.run_getObj_map hb, hc, h1, MapKept.run_setObj_map _ hb, Result.andThen, setBlock]
    · rw [putA_none h2]
      simp [he]
  · have h2' : es.toList[j]? = some e := by simpa using h2
    refine ⟨setBlock w b (.map (es.modify j (fun e' => { e' with key := fam.kv q, val := v })) clock), ?_, ⟨⟨_, _, heap_setBlock_same hb _, ?_, ?_⟩, hsm, putA_nodup hn⟩, hgrow _, by simp [setBlock]⟩
    · simp [Instr.mapUpdate, run_underlying ht, MapKept.run_getObj_map hb, hc, h1, h2, h3, fam.law.stays w hl, MapKept.run_setObj_map _ hb, Result.andThen, setBlock]
    · refine stamped_modify hst j _ (fun e' _ => rfl) (fun e' _ he' => ?_)
      rw [h2] at he'
      cases he'
      exact h3.symm
    · rw [(at_someA hn h5).2.1, Array.toList_modify, modify_eq_set _ _ _ _ h2', List.map_set, List.map_set, he]

/-- 'delete(m, k)'. -/
theorem MapS.drop (h : MapS fam w b L) (ht : P.underlying T = some (.map K E)) {q : κ} (hq : fam.ok q) (ty : TypeId) :
    ∃ w', (Builtin.delete_ #[T, K] ty #[.map (some b), fam.kv q]).run P w = .ok (.tuple #[]) w' ∧ MapS fam w' b (delA q L) ∧ w.grownBy w' (some b) ∧ w'.heap.size = w.heap.size := by
  obtain ⟨l, hl⟩ := fam.lit q hq
  have hn := h.2.2
  have hs := h.2.1
  obtain ⟨es, clock, hb, hst, he, hf⟩ := h.find hq
  have hc := fun em => fam.law.check w em hl
  have hgrow : ∀ o, w.grownBy (setBlock w b o) (some b) := fun o => ⟨rfl, rfl, rfl, by simp [setBlock], fun i _ hi => heap_setBlock_other hb _ (fun e => hi (by rw [e]))⟩
  have hsm : ∀ x ∈ delA q L, fam.ok x.1 := fun x hx => hs x (delA_sub.subset hx)
  rcases hf with ⟨h1, h2, _⟩ | ⟨j, e, u, h1, h2, h3, h4, h5⟩
  · refine ⟨setBlock w b (.map es clock), ?_, ⟨⟨_, _, heap_setBlock_same hb _, hst, ?_⟩, hsm, delA_nodup hn⟩, hgrow _, by simp [setBlock]⟩
    · simp [Builtin.delete_, run_underlying ht, MapKept.run_getObj_map hb, hc, h1, MapKept.run_setObj_map _ hb, Result.andThen, setBlock]
    · rw [delA_none h2, he]
  · refine ⟨setBlock w b (.map (es.eraseIdxIfInBounds j) clock), ?_, ⟨⟨_, _, heap_setBlock_same hb _, stamped_erase hst j, ?_⟩, hsm, delA_nodup hn⟩, hgrow _, by simp [setBlock]⟩
    · simp [Builtin.delete_, run_underlying ht, MapKept.run_getObj_map hb, hc, h1, MapKept.run_setObj_map _ hb, Result.andThen, setBlock]
    · have hjs : j < es.size := (Array.getElem?_eq_some_iff.1 h2).1
      rw [(at_someA hn h5).2.2]
      unfold Array.eraseIdxIfInBounds
      rw [dif_pos hjs, Array.toList_eraseIdx, Go.ChangeMaps.map_eraseIdx, he, Go.ChangeMaps.map_eraseIdx]

end

section
variable {fam : KeyFam P K κ} (w : World) {ops : Array Oper} {rest : List Oper} {o : Oper} {a : Act} {Q : Exit → Act → World → Prop} {b r : Nat} {L left : List (κ × Value)}
/-- 'range m', at the operation. -/
theorem wpList_rangeS (hg : o.guard = none) (m : Operand) (hop : o.op = Op.range T m) (ht : P.underlying T = some (.map K E)) (hm : a.eval m = .map (some b)) (h : MapS fam w b L)
    (hK : ∀ w', RangS fam w' b w.heap.size L L → w.grownBy w' none → w'.heap.size = w.heap.size + 1 → wpList P ops Q rest (a.put o.dst (.pointer (some ⟨w.heap.size, 0, none⟩))) w') :
    wpList P ops Q (o :: rest) a w := by
  refine wpList_plain hg fun K' hK' => ?_
  obtain ⟨hrun, hr⟩ := h.range (E := E) ht
  unfold Oper.wp
  simp [execOp, hop, hm, hrun, Result.andThen]
  exact hK' _ _ (hK _ hr (World.grownBy_alloc w _ none) (by simp))

/-- The step, at the operation. -/
theorem wpList_nextS (hg : o.guard = none) (it : Operand) (hop : o.op = Op.next it false) (hit : a.eval it = .pointer (some ⟨r, 0, none⟩)) (h : RangS fam w b r L left)
    (hDone : left = [] → wpList P ops Q rest (a.put o.dst (.tuple #[.bool false])) w)
    (hMore : ∀ (l1 l2 : List (κ × Value)) (q : κ) (v : Value) (w' : World), left = l1 ++ (q, v) :: l2 → (q, v) ∈ L → RangS fam w' b r L (l1 ++ l2) → w.grownBy w' (some r) → w'.heap.size = w.heap.size →
      (Instr.entry (.pointer (some ⟨r, 0, none⟩))).run P w' = .ok (.tuple #[fam.kv q, v]) w' → wpList P ops Q rest (a.put o.dst (.tuple #[.bool true, fam.kv q, v])) w') :
    wpList P ops Q (o :: rest) a w := by
  refine wpList_plain hg fun K' hK' => ?_
  unfold Oper.wp
  rcases h.next o.type with ⟨h0, hrun⟩ | ⟨l1, x, l2, w', h1, h2, hrun, hrg, hgr, hsz, hen⟩
  · simp [execOp, hop, hit, hrun, Result.andThen]
    exact hK' _ _ (hDone h0)
  · simp [execOp, hop, hit, hrun, Result.andThen]
    exact hK' _ _ (hMore l1 l2 x.1 x.2 w' h1 h2 hrg hgr hsz hen)
end

/-- w' is w but for blocks of F and new ones. -/
structure Mv (F : Nat → Prop) (w w' : World) : Prop where
  os : w'.os = w.os
  tape : w'.tape = w.tape
  output : w'.output = w.output
  size : w.heap.size ≤ w'.heap.size
  block : ∀ k, k < w.heap.size → ¬ F k → w'.heap[k]? = w.heap[k]?

section
variable {F F1 F2 : Nat → Prop} {w w1 w2 : World}
theorem Mv.refl (F : Nat → Prop) (w : World) : Mv F w w := ⟨rfl, rfl, rfl, Nat.le_refl _, fun _ _ _ => rfl⟩
theorem Mv.trans (h : Mv F w w1) (h1 : Mv F1 w1 w2) (hs : ∀ k, k < w.heap.size → F1 k → F k) : Mv F w w2 :=
  ⟨h1.os.trans h.os, h1.tape.trans h.tape, h1.output.trans h.output, Nat.le_trans h.size h1.size, fun k hk hF => (h1.block k (Nat.lt_of_lt_of_le hk h.size) fun e => hF (hs k hk e)).trans (h.block k hk hF)⟩
theorem Mv.of_below (h : Below w.heap.size w w1) : Mv F w w1 := ⟨h.os, h.tape, h.output, h.size, fun k hk _ => h.block k hk⟩
theorem Mv.of_grown {r : Option Nat} (h : w.grownBy w1 r) (hr : ∀ k, r = some k → k < w.heap.size → F k) : Mv F w w1 :=
  ⟨h.os, h.tape, h.output, h.size, fun k hk hF => h.block k hk (fun e => hF (hr k e.symm hk))⟩
theorem Mv.setCell (h : Mv F w w1) {k : Nat} (hF : k < w.heap.size → F k) (i : Nat) (v : Value) : Mv F w (w1.setCell ⟨k, i, none⟩ v) :=
  h.trans (F1 := fun j => j = k) ⟨rfl, rfl, rfl, by simp, fun j _ hj => Below.heap_setCell _ _ _ _ (by show j ≠ k; exact hj)⟩ (fun j hj e => by subst e; exact hF hj)
theorem Mv.alloc (h : Mv F w w1) (o : Obj) : Mv F w (w1.alloc o) := h.trans (F1 := fun _ => False) (Mv.of_grown (World.grownBy_alloc w1 o none) (fun _ e => by cases e)) (fun _ _ e => e.elim)
theorem Mv.drew (h : Mv F w w1) : Mv F w w1.drew := ⟨h.os, h.tape, h.output, h.size, h.block⟩
theorem Mv.drewN (h : Mv F w w1) (n : Nat) : Mv F w (w1.drewN n) := ⟨h.os, h.tape, h.output, h.size, h.block⟩
theorem Mv.below {w0 : World} {B : Nat} (hb : Below B w0 w) (h : Mv F w w1) (hB : ∀ k, F k → B ≤ k) (hw : B ≤ w.heap.size) : Below B w0 w1 :=
  ⟨h.os.trans hb.os, h.tape.trans hb.tape, h.output.trans hb.output, Nat.le_trans hb.size h.size, fun k hk => (h.block k (by omega) (fun e => by have := hB k e; omega)).trans (hb.block k hk)⟩
theorem Mv.mono (h : Mv F w w1) (hs : ∀ k, k < w.heap.size → F k → F2 k) : Mv F2 w w1 := ⟨h.os, h.tape, h.output, h.size, fun k hk hF => h.block k hk fun e => hF (hs k hk e)⟩
theorem Mv.cell (h : Mv F w w1) {k i : Nat} (hk : k < w.heap.size) (hF : ¬ F k) : w1.cell? ⟨k, i, none⟩ = w.cell? ⟨k, i, none⟩ := World.cell?_of_block (w := w) (h.block k hk hF)
end

end Go.Proofs.YtpmafabphlejeaaGreat
/-
  Works in memory; rows of what lies deep; sets of names; an append onto a row without room.
  Conditions: none.
-/
namespace Go.Proofs.YtpmafabphlejeaaGreat
open Go.RowKit
set_option linter.unusedVariables false
set_option linter.unusedSimpArgs false
set_option maxRecDepth 100000

/-- A work, and how its rows lie. -/
structure WorkC where
  A1 : Option Addr
  c1 : Nat
  cs : List PutC
  A2 : Option Addr
  c2 : Nat
  rs : List RefE
def WorkC.ps (x : WorkC) : List PutE := esOf x.cs
def workVal (x : WorkC) : Value := .agg #[.slice x.A1 x.cs.length x.c1, .slice x.A2 x.rs.length x.c2]
structure ShowsW (w : World) (x : WorkC) : Prop where
  puts : RowP w x.A1 x.c1 x.cs
  takes : RowR w x.A2 x.c2 x.rs
def zW : WorkC := ⟨none, 0, [], none, 0, []⟩
section
variable {w w' : World} {B b : Nat} {x : WorkC}
theorem ShowsW.kept (h : ShowsW w x) (hb : Below B w w') (hB : w.heap.size ≤ B) : ShowsW w' x := ⟨h.puts.kept hb hB, h.takes.kept hb hB⟩
theorem ShowsW.sub (h : ShowsW w x) (hs : Sub w w') : ShowsW w' x := ⟨h.puts.sub hs, h.takes.sub hs⟩
theorem ShowsW.nil (w : World) : ShowsW w zW := ⟨RowP.nil w, RowR.nil w⟩
/-- Two cells in a block of the call's own. -/
def BoxK (w : World) (b : Nat) (v1 v2 : Value) : Prop := w.heap[b]? = some (.cells #[v1, v2] 25 (0, 0))
variable {v1 v2 : Value}
theorem BoxK.new (w : World) (v1 v2 : Value) : BoxK (w.alloc (Obj.cells #[v1, v2] 25)) w.heap.size v1 v2 := heap_alloc_new w _
theorem BoxK.lt (h : BoxK w b v1 v2) : b < w.heap.size := (Array.getElem?_eq_some_iff.1 h).1
theorem BoxK.kept (h : BoxK w b v1 v2) (hb : Below B w w') (hB : w.heap.size ≤ B) : BoxK w' b v1 v2 := (hb.block b (Nat.lt_of_lt_of_le h.lt hB)).trans h
theorem BoxK.fr (h : BoxK w b v1 v2) (i : Nat) : w.frozen? ⟨b, i, none⟩ = false := frozen_of_row w b i _ 25 h
theorem BoxK.c0 (h : BoxK w b v1 v2) : w.cell? ⟨b, 0, none⟩ = some v1 := cell_of_row w b 0 _ 25 (0, 0) h
theorem BoxK.c1 (h : BoxK w b v1 v2) : w.cell? ⟨b, 1, none⟩ = some v2 := cell_of_row w b 1 _ 25 (0, 0) h
theorem BoxK.set0 (h : BoxK w b v1 v2) (u : Value) : BoxK (w.setCell ⟨b, 0, none⟩ u) b u v2 := heap_setCell_same w b 0 _ 25 u h
theorem BoxK.set1 (h : BoxK w b v1 v2) (u : Value) : BoxK (w.setCell ⟨b, 1, none⟩ u) b v1 u := heap_setCell_same w b 1 _ 25 u h
/-- The box of a name of a message. -/
def BoxR2 (w : World) (b : Nat) (r : RefE) : Prop := w.heap[b]? = some (.cells #[.string r.q, .int .u64 r.id] 37 (0, 0))
theorem BoxR2.new (w : World) (r : RefE) : BoxR2 (w.alloc (Obj.cells #[.string r.q, .int .u64 r.id] 37)) w.heap.size r := heap_alloc_new w _
theorem BoxR2.lt {r : RefE} (h : BoxR2 w b r) : b < w.heap.size := (Array.getElem?_eq_some_iff.1 h).1
theorem BoxR2.kept {r : RefE} (h : BoxR2 w b r) (hb : Below B w w') (hB : w.heap.size ≤ B) : BoxR2 w' b r := (hb.block b (Nat.lt_of_lt_of_le h.lt hB)).trans h
theorem BoxR2.fr {r : RefE} (h : BoxR2 w b r) (i : Nat) : w.frozen? ⟨b, i, none⟩ = false := frozen_of_row w b i _ 37 h
theorem BoxR2.c0 {r : RefE} (h : BoxR2 w b r) : w.cell? ⟨b, 0, none⟩ = some (.string r.q) := cell_of_row w b 0 _ 37 (0, 0) h
theorem BoxR2.c1 {r : RefE} (h : BoxR2 w b r) : w.cell? ⟨b, 1, none⟩ = some (.int .u64 r.id) := cell_of_row w b 1 _ 37 (0, 0) h
end

/-- A row of the call's own whose elements lie deep in other blocks of its own. -/
structure GRow {α : Type} (C : Code α) (e : TypeId) (S : World → Nat → α → Prop) (base : Nat) (v : Value) (cs : List α) (w : World) : Prop where
  own : OwnG C e w base v cs
  sh : ∀ j (h : j < cs.length), S (pm (Free base v (.slice none 0 0)) w) j cs[j]
section
variable {α : Type} {C : Code α} {e : TypeId} {S : World → Nat → α → Prop} {base : Nat} {v v' : Value} {cs : List α} {w w4 w5 w6 w' : World} {c : α}
theorem GRow.nil (C : Code α) (e : TypeId) (S : World → Nat → α → Prop) (base : Nat) (w : World) : GRow C e S base (.slice none 0 0) [] w := ⟨OwnG.nil_ _ _ _ _, fun j h => absurd h (by simp)⟩
variable (hS : ∀ w w' j x, S w j x → Sub w w' → S w' j x)
include hS
theorem GRow.keep (h : GRow C e S base v cs w) (hs : w.heap.size ≤ w'.heap.size) (hk : ∀ k, base ≤ k → k < w.heap.size → w'.heap[k]? = w.heap[k]?) : GRow C e S base v cs w' :=
  ⟨h.own.keep fun i hi => hk i (h.own.block i hi).1 (h.own.block i hi).2, fun j hj => hS _ _ _ _ (h.sh j hj) (pm_pm hs fun k hf hkw => ⟨hf, hk k hf.1 hkw⟩)⟩
theorem GRow.step (h : GRow C e S base v cs w) (hb : Below w.heap.size w w') : GRow C e S base v cs w' := h.keep hS hb.size fun k _ hkw => hb.block k hkw
theorem GRow.push (h : GRow C e S base v cs w) (hB : base ≤ w.heap.size) (hb4 : Below w.heap.size w w4) (hc : S (lowm w.heap.size w4) cs.length c) (hb5 : Below w4.heap.size w4 w5) (ho : OwnG C e w6 base v' (cs ++ [c]))
    (hg6 : w5.grownBy w6 v.ownBlock) (hv : v'.ownBlock = v.ownBlock ∨ v'.ownBlock = some w5.heap.size) : GRow C e S base v' (cs ++ [c]) w6 := by
  have h4 := h.step hS hb4
  have hs1 := hb4.size
  have hs2 := hb5.size
  refine ⟨ho, fun j hj => ?_⟩
  by_cases hjc : j < cs.length
  · rw [List.getElem_append_left hjc]
    refine hS _ _ _ _ (h4.sh j hjc) (pm_pm (Nat.le_trans hb5.size hg6.size) fun k hk hkw => ⟨⟨hk.1, ?_, hk.2.2⟩, ?_⟩)
    · rcases hv with e | e
      · rw [e]; exact hk.2.1
      · rw [e]; intro e2; have := Option.some.inj e2; omega
    · exact (hg6.block k (by omega) (fun e => hk.2.1 e.symm)).trans (hb5.block k hkw)
  · have hj0 : j = cs.length := by rw [List.length_append, List.length_singleton] at hj; omega
    subst hj0
    rw [List.getElem_append_right (Nat.le_refl _)]
    simp only [Nat.sub_self, List.getElem_cons_zero]
    refine hS _ _ _ _ hc (low_pm (Nat.le_trans hb5.size hg6.size) fun k hk hkw => ⟨⟨by omega, ?_, by simp [Value.ownBlock]⟩, ?_⟩)
    · rcases hv with e | e
      · rw [e]; intro e2; have := (h.own.block k e2).2; omega
      · rw [e]; intro e2; have := Option.some.inj e2; omega
    · exact (hg6.block k (by omega) (fun e => by have := (h.own.block k e.symm).2; omega)).trans (hb5.block k hkw)
theorem GRow.mono (h : GRow C e S base v cs w) {b' : Nat} (hb : b' ≤ base) : GRow C e S b' v cs w :=
  ⟨h.own.mono hb, fun j hj => hS _ _ _ _ (h.sh j hj) (pm_pm (Nat.le_refl _) fun k hk _ => ⟨⟨by have := hk.1; omega, hk.2.1, hk.2.2⟩, rfl⟩)⟩
theorem GRow.low (h : GRow C e S base v cs w) {B : Nat} (hB : B ≤ base) (j : Nat) (hj : j < cs.length) : S (lowm B w) j cs[j] :=
  hS _ _ _ _ (h.sh j hj) (pm_low fun k hk => by have := hk.1; omega)
end

/-- 'append' onto a row without room behind it, whosever it is. -/
theorem run_append_cutG {α : Type} {C : Code α} {P : Program} {w : World} {e : TypeId} {d d2 : Nat} (t ty : TypeId) (i : TypeInfo) (z : Value) (bytes : Nat) (ht : P.underlying t = some (.slice e)) (hi : P.info? e = some i) (hz : i.zero = some z)
    (hsize : i.size = C.sz) (hby : i.bytes = bytes) (hzs : z.cells.size = C.sz) (A : Option Addr) (l : List α) (hown : ShowsG C w d (.slice A l.length l.length) l) (y : Value) (m : List α) (hy : ShowsG C w d2 y m) (hm0 : 0 < m.length)
    (hb : (l.length + m.length) * bytes ≤ 140737488355328) (hb63 : l.length + m.length ≤ maxLen) :
    ∃ v' w', (Builtin.append_ #[t, t] ty #[.slice A l.length l.length, y]).run P w = .ok v' w' ∧ OwnG C e w' w.heap.size v' (l ++ m) ∧ w.grownBy w' none := by
  rcases hl : l with _ | ⟨x0, r0⟩
  · subst hl
    rcases A with _ | a
    · obtain ⟨v', w', h1, h2, h3⟩ := run_appendG (P := P) (C := C) (base := w.heap.size) t ty i z bytes ht hi hz hsize hby hzs (OwnG.nil_ C e w w.heap.size) y m hy hb hb63 (Nat.le_refl _)
      exact ⟨v', w', h1, h2, h3⟩
    · obtain ⟨A2, c2, rfl, hmc, hcm, hcell⟩ := hy
      obtain ⟨o2, rfl, _, hc⟩ := hcell hm0
      obtain ⟨v', w', h1, h2, h3⟩ := run_append_arg_grows (P := P) w t ty e i z C.sz bytes ht hi hz hsize hby hzs C.pos a 0 0 [] (by simp) (by simp) ⟨d2, o2, none⟩ m.length c2 (C.all m) (C.all_length m)
        (fun j u hu => by obtain ⟨q, k, hq, rfl, hk, hu'⟩ := C.all_at m hu; rw [add_plain', hc q hq k hk]; exact hu') (by omega) (by simpa using hb63) (by simpa using hb)
      refine ⟨v', w', h1, ?_, h3⟩
      unfold OwnG
      rw [C.all_append, List.length_append]
      exact h2
  · rw [← hl]
    have hp : 0 < l.length := by rw [hl]; simp
    obtain ⟨o1, rfl, hd1, hc1⟩ := hown.at_ hp
    obtain ⟨A2, c2, rfl, hmc, hcm, hcell⟩ := hy
    obtain ⟨o2, rfl, _, hc⟩ := hcell hm0
    obtain ⟨v', w', h1, h2, h3⟩ := run_append_arg_grows (P := P) w t ty e i z C.sz bytes ht hi hz hsize hby hzs C.pos ⟨d, o1, none⟩ l.length l.length (C.all l) (C.all_length l)
      (fun j u hu => by obtain ⟨q, k, hq, rfl, hk, hu'⟩ := C.all_at l hu; rw [add_plain', hc1 q hq k hk]; exact hu') ⟨d2, o2, none⟩ m.length c2 (C.all m) (C.all_length m)
      (fun j u hu => by obtain ⟨q, k, hq, rfl, hk, hu'⟩ := C.all_at m hu; rw [add_plain', hc q hq k hk]; exact hu') (by omega) hb63 hb
    refine ⟨v', w', h1, ?_, h3⟩
    unfold OwnG
    rw [C.all_append, List.length_append]
    exact h2

/-! ### sets of names -/
theorem typesSizeR : ∃ m, Tryz.prog.types.size = m + 1 := ⟨Tryz.prog.types.size - 1, by have : 0 < Tryz.prog.types.size := of_decide_eq_true (by kernel_rfl); omega⟩
def refVal (r : RefE) : Value := .agg #[.string r.q, .int .u64 r.id]
theorem refWide : (match Tryz.prog.underlying 37 with | some (.array _ _) | some (.struct _) => true | _ => false) = true := by kernel_rfl
theorem refLaw : WideMaps.KeyLaw Tryz.prog 37 := deep_law (m := 2) (by omega) (by kernel_rfl) (by kernel_rfl) refWide
theorem refKeyType : Tryz.prog.keyType 37 = true := by kernel_rfl
theorem u64_wf {n : Nat} (h : n < 18446744073709551616) : (Lit.int .u64 n).wf = true := by
  simp only [Lit.wf, IntKind.min, IntKind.max, IntKind.signed, IntKind.bits, Bool.and_eq_true, decide_eq_true_eq]
  simp
  omega
theorem refKey {r : RefE} (hq : r.q.size ≤ 140737488351232) (hi : r.id < 18446744073709551616) : ∃ l, keyOf Tryz.prog 37 (refVal r) = some l := by
  obtain ⟨m, hm⟩ := typesSizeR
  have hC : Tryz.prog.cellsOf 37 = 2 := by kernel_rfl
  have hC1 : Tryz.prog.cellsOf 9 = 1 := by kernel_rfl
  have hC2 : Tryz.prog.cellsOf 26 = 1 := by kernel_rfl
  have hx : r.q.size ≤ maxLen := by simp only [maxLen]; omega
  refine ⟨.string (keyBytes [.string r.q.data.toList, .int .u64 r.id]), ?_⟩
  unfold keyOf
  rw [Tryz.underlying37]
  simp only []
  rw [if_pos (by simp [refKeyType, refVal, Value.formed, Tryz.underlying37, hC]), hm]
  unfold Program.keyLits
  rw [Tryz.underlying37]
  simp [refVal, Value.cells, hC, hC1, hC2, Program.keyLits, Tryz.underlying9, Tryz.underlying26, hx, u64_wf hi]
def famRef : KeyFam Tryz.prog 37 RefE where
  kv := refVal
  ok r := RefAt r
  law := Maps.Keyed.of_law refLaw
  lit r hr := refKey hr.1 hr.2
  inj p q h := by
    simp only [refVal, Value.agg.injEq] at h
    simp at h
    exact refE_ext h.1 (by omega)
def famStr : KeyFam Tryz.prog 9 ByteArray where
  kv q := .string q
  ok q := q.size ≤ 140737488351232
  law := Maps.string_keyed Tryz.underlying9
  lit q hq := ⟨.string q.data.toList, by
    have h0 : q.size ≤ maxLen := by simp only [maxLen]; omega
    simp [keyOf, Tryz.underlying9, mapKey, h0]⟩
  inj p q h := by simpa using h
theorem putA_keys {κ α : Type} [DecidableEq κ] (q : κ) (v : α) : ∀ L : List (κ × α), (putA q v L).map (·.1) = if q ∈ L.map (·.1) then L.map (·.1) else L.map (·.1) ++ [q]
  | [] => by simp [putA]
  | x :: r => by
    unfold putA
    by_cases e : x.1 = q
    · rw [if_pos e, if_pos (by simp [e])]; simp [e]
    · rw [if_neg e, List.map_cons, putA_keys q v r, List.map_cons]
      by_cases h : q ∈ r.map (·.1)
      · rw [if_pos h, if_pos (List.mem_cons_of_mem _ h)]
      · rw [if_neg h, if_neg (by intro h1; rcases List.mem_cons.1 h1 with h1 | h1; exact e h1.symm; exact h h1)]; rfl

end Go.Proofs.YtpmafabphlejeaaGreat
