/-
  Rounds of which all may always be served; rounds whose credits are spent: without a program.
  Conditions: none.
-/
import Derived.Test.YtknfiiacalfelaaCrP
namespace Go.Proofs.Ytknfiiacalfelaa
set_option linter.unusedVariables false
set_option linter.unusedSimpArgs false

def chT (i : Nat) : Tg := [UInt8.ofNat (97 + i)]
/-- So many subscriptions of these credits. -/
def spL (cs : List Nat) : List (Tg × Nat) := (List.range cs.length).map fun i => (chT i, cs.getD i 0)
def mayL (n : Nat) : List Tg := (List.range n).map chT
theorem chT_inj {i j : Nat} (hi : i < 100) (hj : j < 100) (h : chT i = chT j) : i = j := by
  unfold chT at h
  injection h with h _
  have := congrArg UInt8.toNat h
  simp at this
  omega
theorem spL_length (cs : List Nat) : (spL cs).length = cs.length := by simp [spL]
theorem spL_get (cs : List Nat) {i : Nat} (hi : i < cs.length) : (spL cs)[i]'(by rw [spL_length]; exact hi) = (chT i, cs[i]) := by
  simp [spL, hi]
theorem spL_split (cs : List Nat) {i : Nat} (hi : i < cs.length) : ∃ a b, spL cs = a ++ (chT i, cs[i]) :: b := by
  have h := List.append_of_mem (List.getElem_mem (l := spL cs) (n := i) (by rw [spL_length]; exact hi))
  rw [spL_get cs hi] at h
  exact h
theorem spL_tags (cs : List Nat) : (spL cs).map (·.1) = mayL cs.length := by
  unfold spL mayL
  rw [List.map_map]
  rfl
theorem mayL_nodup {n : Nat} (hn : n ≤ 100) : (mayL n).Nodup := by
  unfold mayL List.Nodup
  rw [List.pairwise_map]
  refine List.Pairwise.imp_of_mem (fun {a b} ha hb hlt e => ?_) (List.pairwise_lt_range (n := n))
  simp at ha hb
  have := chT_inj (by omega) (by omega) e
  omega
theorem mem_mayL {n i : Nat} (hi : i < n) : chT i ∈ mayL n := List.mem_map.2 ⟨i, by simpa using hi, rfl⟩
theorem mem_spL {cs : List Nat} {x : Tg × Nat} (h : x ∈ spL cs) : ∃ i, ∃ hi : i < cs.length, x = (chT i, cs[i]) := by
  obtain ⟨i, hi, e⟩ := List.getElem_of_mem h
  rw [spL_length] at hi
  rw [spL_get cs hi] at e
  exact ⟨i, hi, e.symm⟩
theorem spL_set {cs : List Nat} {i : Nat} (hi : i < cs.length) (hn : cs.length ≤ 100) (f : Nat → Nat) : updA (chT i) f (spL cs) = spL (cs.set i (f cs[i])) := by
  unfold updA spL
  rw [List.map_map, List.length_set]
  refine List.map_congr_left fun j hj => ?_
  simp at hj
  simp only [Function.comp_def]
  by_cases e : j = i
  · subst e
    rw [if_pos rfl]
    simp [List.getD, hi]
  · rw [if_neg (fun h => e (chT_inj (by omega) (by omega) h))]
    simp [List.getD, List.getElem?_set, Ne.symm e]
theorem spL_snoc (cs : List Nat) (c : Nat) : spL (cs ++ [c]) = spL cs ++ [(chT cs.length, c)] := by
  unfold spL
  rw [List.length_append, List.length_singleton, List.range_succ, List.map_append]
  congr 1
  · refine List.map_congr_left fun j hj => ?_
    simp at hj
    simp [List.getD, List.getElem?_append, hj]
  · simp [List.getD]
theorem chT_tag (i : Nat) : isTag (chT i) := ⟨by simp [chT], by simp [chT]⟩
theorem getA_spL_none {cs : List Nat} (hn : cs.length < 100) : getA (chT cs.length) (spL cs) = none := getA_none fun x hx => by
  obtain ⟨i, hi, rfl⟩ := mem_spL hx
  exact fun h => by have := chT_inj (by omega) (by omega) h; omega
theorem sp_add {cs : List Nat} (hn : cs.length < 100) (la : Tg) : (⟨spL cs, la⟩ : CP).add (chT cs.length) = (0, ⟨spL (cs ++ [0]), la⟩) := by
  unfold CP.add
  rw [if_pos (chT_tag _), getA_spL_none hn, spL_snoc]
  rfl
theorem sp_give {cs : List Nat} (hn : cs.length < 100) (la : Tg) (c : Nat) (hc : c ≤ 4294967295) : (⟨spL (cs ++ [0]), la⟩ : CP).give (chT cs.length) c = (0, ⟨spL (cs ++ [c]), la⟩) := by
  have hm : (chT cs.length, 0) ∈ spL (cs ++ [0]) := by rw [spL_snoc]; simp
  have hnd : ((spL (cs ++ [0])).map (·.1)).Nodup := by rw [spL_tags]; exact mayL_nodup (by simp; omega)
  have hg := getA_of_mem hnd hm
  unfold CP.give CP.chg
  rw [hg]
  show (0, (⟨updA (chT cs.length) (fun c' => min (c' + c) 4294967295) (spL (cs ++ [0])), la⟩ : CP)) = _
  rw [spL_set (i := cs.length) (by simp) (by simp; omega)]
  have e1 : (cs ++ [0])[cs.length]'(by simp) = 0 := by simp
  have e2 : min (0 + c) 4294967295 = c := by omega
  rw [e1, e2]
  simp
/-- Where the last served one is, or none was served. -/
def spOk (cs : List Nat) (la : Tg) : Prop := la = [] ∨ ∃ i, i < cs.length ∧ la = chT i
theorem rot_mem {cs : List Nat} {la : Tg} {x : Tg × Nat} (hn : cs.length ≤ 100) (h : spOk cs la) : x ∈ rotA la [] (spL cs) ↔ x ∈ spL cs := by
  rcases h with rfl | ⟨i, hi, rfl⟩
  · rw [rotA_none (fun y hy => by obtain ⟨j, _, rfl⟩ := mem_spL hy; simp [chT])]
    simp
  · obtain ⟨a, b, e⟩ := spL_split cs hi
    have hnd : ((a ++ (chT i, cs[i]) :: b).map (·.1)).Nodup := by rw [← e, spL_tags]; exact mayL_nodup hn
    have := rotA_mid (x := (chT i, cs[i])) (b := b) (mid_nodup hnd).1 []
    rw [e]
    show x ∈ rotA (chT i, cs[i]).1 [] (a ++ (chT i, cs[i]) :: b) ↔ _
    rw [this]
    simp only [List.mem_append, List.mem_cons, List.not_mem_nil, or_false, List.nil_append]
    constructor
    · rintro (h | h | h) <;> simp [h]
    · rintro (h | h | h) <;> simp [h]
/-- A turn of which all may be served: somebody who has credit, or nobody has. -/
theorem sp_turn {cs : List Nat} {la : Tg} (hn : cs.length ≤ 100) (h : spOk cs la) (hc : ∀ c ∈ cs, c < 4294967295) :
    ((∀ c ∈ cs, c = 0) ∧ (⟨spL cs, la⟩ : CP).turn (mayL cs.length) = (([], false), ⟨spL cs, la⟩)) ∨
    ∃ i, ∃ hi : i < cs.length, cs[i] ≠ 0 ∧ (⟨spL cs, la⟩ : CP).turn (mayL cs.length) = ((chT i, true), ⟨spL (cs.set i (cs[i] - 1)), chT i⟩) := by
  unfold CP.turn
  cases hf : (rotA la [] (spL cs)).find? (mayC (mayL cs.length)) with
  | none =>
    left
    refine ⟨fun c hcm => ?_, rfl⟩
    obtain ⟨i, hi, rfl⟩ := List.getElem_of_mem hcm
    rw [List.find?_eq_none] at hf
    have := hf (chT i, cs[i]) ((rot_mem hn h).2 (by rw [← spL_get cs hi]; exact List.getElem_mem _))
    unfold mayC at this
    simp [mem_mayL hi] at this
    exact this
  | some x =>
    right
    have hm := (rot_mem hn h).1 (List.mem_of_find?_eq_some hf)
    obtain ⟨i, hi, rfl⟩ := mem_spL hm
    have hp := List.find?_some hf
    unfold mayC at hp
    simp at hp
    refine ⟨i, hi, hp.2, ?_⟩
    show ((chT i, true), (⟨updA (chT i) usedC (spL cs), chT i⟩ : CP)) = _
    rw [spL_set hi hn]
    have : usedC cs[i] = cs[i] - 1 := if_neg (by have := hc _ (List.getElem_mem hi); omega)
    rw [this]
def fairC (n : Nat) : List Nat := List.replicate n 4294967295
def eqCP (a b : CP) : Bool := a.l == b.l && a.last == b.last
def chkF (n j : Nat) : Bool := let r := (⟨spL (fairC n), chT j⟩ : CP).turn (mayL n); let i := if j + 1 = n then 0 else j + 1; (r.1.1 == chT i) && r.1.2 && eqCP r.2 ⟨spL (fairC n), chT i⟩
def chkF0 (n : Nat) : Bool := let r := (⟨spL (fairC n), []⟩ : CP).turn (mayL n); (r.1.1 == chT 0) && r.1.2 && eqCP r.2 ⟨spL (fairC n), chT 0⟩
theorem chkF_all : ∀ n, n < 11 → ∀ j, j < n → chkF n j = true := by decide +kernel
theorem chkF0_all : ∀ n, n < 11 → 0 < n → chkF0 n = true := by decide +kernel
theorem of_chk {r : (Tg × Bool) × CP} {t : Tg} {s : CP} (h : ((r.1.1 == t) && r.1.2 && eqCP r.2 s) = true) : r = ((t, true), s) := by
  obtain ⟨⟨a, b⟩, ⟨l, la⟩⟩ := r
  obtain ⟨l2, la2⟩ := s
  simp [eqCP] at h
  obtain ⟨⟨rfl, rfl⟩, rfl, rfl⟩ := h
  rfl
theorem fair_turn {n j : Nat} (hn : n < 11) (hj : j < n) : (⟨spL (fairC n), chT j⟩ : CP).turn (mayL n) = ((chT (if j + 1 = n then 0 else j + 1), true), ⟨spL (fairC n), chT (if j + 1 = n then 0 else j + 1)⟩) := of_chk (chkF_all n hn j hj)
theorem fair_turn0 {n : Nat} (hn : n < 11) (h0 : 0 < n) : (⟨spL (fairC n), []⟩ : CP).turn (mayL n) = ((chT 0, true), ⟨spL (fairC n), chT 0⟩) := of_chk (chkF0_all n hn h0)
/-- Who is served at which turn. -/
def fairLast (n : Nat) : Nat → Tg
  | 0 => []
  | k + 1 => chT (k % n)
theorem fair_step {n k : Nat} (hn : n < 11) (h0 : 0 < n) : (⟨spL (fairC n), fairLast n k⟩ : CP).turn (mayL n) = ((chT (k % n), true), ⟨spL (fairC n), fairLast n (k + 1)⟩) := by
  cases k with
  | zero => rw [Nat.zero_mod]; exact fair_turn0 hn h0
  | succ k =>
    have hk := Nat.mod_lt k h0
    have := fair_turn hn hk
    have e : (if k % n + 1 = n then 0 else k % n + 1) = (k + 1) % n := by
      rw [← Nat.mod_add_mod k n 1]
      split
      · rename_i h
        rw [h, Nat.mod_self]
      · rename_i h
        exact (Nat.mod_eq_of_lt (show k % n + 1 < n by omega)).symm
    rw [e] at this
    exact this
theorem fair_ne {n i k : Nat} (hn : n < 11) (h1 : i < k) (h2 : k < i + n) : chT (i % n) ≠ chT (k % n) := fun h => by
  have h0 : 0 < n := by omega
  have a1 := Nat.mod_lt i h0
  have a2 := Nat.mod_lt k h0
  have e := chT_inj (by omega) (by omega) h
  have d1 := Nat.div_add_mod i n
  have d2 := Nat.div_add_mod k n
  rcases Nat.lt_or_ge (i / n) (k / n) with h3 | h3
  · have := Nat.mul_le_mul_left n (show i / n + 1 ≤ k / n from h3)
    rw [Nat.mul_add] at this
    omega
  · have := Nat.mul_le_mul_left n h3
    omega
theorem fairC_snoc (n : Nat) : fairC n ++ [4294967295] = fairC (n + 1) := by unfold fairC; rw [List.replicate_succ', ]
theorem mayL_snoc (n : Nat) : mayL n ++ [chT n] = mayL (n + 1) := by unfold mayL; rw [List.range_succ, List.map_append]; rfl

end Go.Proofs.Ytknfiiacalfelaa
