/-
  Without the program: the document's gatherer, which keeps all that was fed, answers what ours does.
  Conditions: none.
-/
import Derived.Test.YtocankfabgjjmaaGaX
namespace Go.Proofs.Ytocankfabgjjmaa
open Go.RowKit
set_option linter.unusedVariables false
set_option linter.unusedSimpArgs false

def atQ (L : List Fr) (q : Plc) : List Fr := L.filter fun f => decide (f.plc = q)
def payQ : List Fr → Nat
  | [] => 0
  | f :: r => f.p.size + payQ r
theorem payQ_append : ∀ a b : List Fr, payQ (a ++ b) = payQ a + payQ b
  | [], b => by simp [payQ]
  | f :: a, b => by simp only [List.cons_append, payQ, payQ_append a b]; omega
def fitsQ (l : List Fr) (f : Fr) : Bool :=
  if 1 < f.k then false
  else match l.getLast? with
    | none => f.a && f.c && f.t == f.k && (f.k == 1 || f.b)
    | some x => if x.d = false then !f.c && f.t == x.t && f.a == x.a && f.b == x.b else f.c && !f.a && decide (x.t < f.t)
def refusedQ (l : List Fr) (f : Fr) : Nat := if checkF f ≠ 0 then 60 else if fitsQ l f = false then 70 else if 16384 < f.p.size + payQ l then 3 else 0
def stepQ (A : List Sg) (f : Fr) : List Sg :=
  if f.c = true then A ++ [⟨f.t, f.p⟩]
  else match A.getLast? with
    | none => []
    | some s => A.dropLast ++ [⟨s.t, str8 (sb s.p ++ sb f.p)⟩]
def segsQ (l : List Fr) : List Sg := l.foldl stepQ []
theorem segsQ_snoc (l : List Fr) (f : Fr) : segsQ (l ++ [f]) = stepQ (segsQ l) f := by simp [segsQ]
def feedQ (L : List Fr) (f : Fr) : Ans × Option (List Fr) :=
  if refusedQ (atQ L f.plc) f ≠ 0 then (ans0 (refusedQ (atQ L f.plc) f), none)
  else if f.b = true ∧ f.d = true then (⟨f.ch, f.k, segsQ (atQ L f.plc ++ [f]), true, 0⟩, some (L.filter fun x => decide (x.plc ≠ f.plc)))
  else (ans0 0, some (L ++ [f]))

theorem snoc_of {α : Type} {A : List α} {s : α} (h : A.getLast? = some s) : A = A.dropLast ++ [s] := by
  have hne : A ≠ [] := by intro e; rw [e] at h; cases h
  rw [List.getLast?_eq_some_getLast hne] at h
  simp only [Option.some.injEq] at h
  rw [← h, List.dropLast_concat_getLast hne]

structure GoodQ (k : Nat) (l : List Fr) (p : Pt) : Prop where
  segs : p.segs = fromsD 0 (segsQ l)
  bytes : p.bytes = catD (segsQ l)
  ne : segsQ l ≠ []
  pay : p.bytes.length = payQ l
  last : ∃ x, l.getLast? = some x ∧ x.t = p.head.t ∧ x.a = p.head.a ∧ x.b = p.head.b ∧ x.d = p.whole
  k1 : k ≤ 1
/-- What is open at a place, on both sides. -/
def RelO (k : Nat) (l : List Fr) : Option Pt → Prop
  | none => l = []
  | some p => GoodQ k l p

theorem rel_bytes {k : Nat} {l : List Fr} {o : Option Pt} (h : RelO k l o) : (o.getD pt0).bytes.length = payQ l := by
  cases o with
  | none => rw [show l = [] from h]; rfl
  | some p => exact h.pay
theorem fits_eq {l : List Fr} {o : Option Pt} {f : Fr} (h : RelO f.k l o) : fitsQ l f = fitsD f o := by
  unfold fitsQ
  cases o with
  | none =>
    rw [show l = [] from h]
    simp only [List.getLast?_nil, fitsD, firstD]
    rcases (show f.k = 0 ∨ f.k = 1 ∨ 1 < f.k by omega) with hk | hk | hk
    · rw [if_neg (by omega), hk]
      simp
    · rw [if_neg (by omega), hk]
      simp
    · rw [if_pos hk, if_neg (by omega), if_neg (by omega)]
      simp
  | some p =>
    obtain ⟨x, hx, h1, h2, h3, h4⟩ := h.last
    have hk := h.k1
    rw [if_neg (by omega), hx]
    simp only [fitsD, h1, h2, h3, h4]
theorem refused_eq {l : List Fr} {o : Option Pt} {f : Fr} (h : RelO f.k l o) : refusedQ l f = refusedD f o := by
  unfold refusedQ refusedD
  rw [fits_eq h, rel_bytes h, Nat.add_comm]
theorem sum_cat (A : List Sg) : sumS A = (catD A).length := (catD_len A).symm
theorem sumS_snoc (A : List Sg) (s : Sg) : sumS (A ++ [s]) = sumS A + s.p.size := by rw [sum_cat, sum_cat, catD_snoc, List.length_append, sb_length]
/-- One more frame that fits. -/
theorem good_add {l : List Fr} {o : Option Pt} {f : Fr} (h : RelO f.k l o) (hr : refusedD f o = 0) : GoodQ f.k (l ++ [f]) ((o.getD pt0).add f) := by
  obtain ⟨hc, hfit, hl⟩ := refused_zero hr
  have hpay := rel_bytes h
  have hlast : (l ++ [f]).getLast? = some f := by simp
  have hplen : ((o.getD pt0).add f).bytes.length = payQ (l ++ [f]) := by
    show ((o.getD pt0).bytes ++ sb f.p).length = _
    rw [List.length_append, sb_length, payQ_append, hpay]
    simp [payQ]
  by_cases hfc : f.c = true
  · have hk : f.k ≤ 1 := by
      cases o with
      | none =>
        simp only [fitsD, Bool.and_eq_true] at hfit
        have := hfit.1.2
        unfold firstD at this
        split at this
        · omega
        · split at this
          · omega
          · cases this
      | some p => exact h.k1
    have hsegs : (o.getD pt0).segs = fromsD 0 (segsQ l) ∧ (o.getD pt0).bytes = catD (segsQ l) := by
      cases o with
      | none => rw [show l = [] from h]; exact ⟨rfl, rfl⟩
      | some p => exact ⟨h.segs, h.bytes⟩
    have es : segsQ (l ++ [f]) = segsQ l ++ [⟨f.t, f.p⟩] := by rw [segsQ_snoc, stepQ, if_pos hfc]
    refine ⟨?_, ?_, by rw [es]; simp, hplen, ⟨f, hlast, ?_, ?_, ?_, rfl⟩, hk⟩
    · rw [es, fromsD_snoc]
      simp only [Pt.add, if_pos hfc]
      rw [hsegs.1, hsegs.2, catD_len]
      simp
    · rw [es, catD_snoc]
      simp only [Pt.add]
      rw [hsegs.2]
    · simp [Pt.add, hfc]
    · simp [Pt.add, hfc]
    · simp [Pt.add, hfc]
  · cases o with
    | none =>
      simp only [fitsD, Bool.and_eq_true] at hfit
      exact absurd hfit.1.1.2 hfc
    | some p =>
      obtain ⟨s, hs⟩ : ∃ s, (segsQ l).getLast? = some s := by
        have hne := h.ne
        exact ⟨_, List.getLast?_eq_some_getLast hne⟩
      have eA := snoc_of hs
      have es : segsQ (l ++ [f]) = (segsQ l).dropLast ++ [⟨s.t, str8 (sb s.p ++ sb f.p)⟩] := by rw [segsQ_snoc, stepQ, if_neg hfc, hs]
      have hw : p.whole = false := by
        cases hpw : p.whole with
        | false => rfl
        | true =>
          simp only [fitsD, hpw] at hfit
          simp only [Bool.true_eq_false, if_false, Bool.and_eq_true] at hfit
          exact absurd hfit.1.1 hfc
      simp only [fitsD, hw, if_true, Bool.and_eq_true, beq_iff_eq] at hfit
      obtain ⟨⟨⟨_, f1⟩, f2⟩, f3⟩ := hfit
      have hs1 := h.segs
      have hb1 := h.bytes
      generalize (segsQ l).dropLast = D at *
      rw [eA] at hs1 hb1
      refine ⟨?_, ?_, by rw [es]; simp, hplen, ⟨f, hlast, ?_, ?_, ?_, rfl⟩, h.k1⟩
      · rw [es, fromsD_snoc]
        simp only [Option.getD_some, Pt.add, if_neg hfc, List.append_nil]
        rw [hs1, fromsD_snoc]
      · rw [es, catD_snoc, sb_str8]
        simp only [Option.getD_some, Pt.add]
        rw [hb1, catD_snoc, List.append_assoc]
      · simp [Pt.add, hfc, f1]
      · simp [Pt.add, hfc, f2]
      · simp [Pt.add, hfc, f3]

theorem atQ_append (L : List Fr) (f : Fr) (q : Plc) : atQ (L ++ [f]) q = atQ L q ++ (if f.plc = q then [f] else []) := by
  unfold atQ
  rw [List.filter_append]
  by_cases h : f.plc = q
  · rw [if_pos h]; simp [h]
  · rw [if_neg h]; simp [h]
theorem atQ_del (L : List Fr) (p q : Plc) : atQ (L.filter fun x => decide (x.plc ≠ p)) q = if q = p then [] else atQ L q := by
  unfold atQ
  rw [List.filter_filter]
  by_cases h : q = p
  · rw [if_pos h]
    rw [List.filter_eq_nil_iff]
    intro x _
    simp only [Bool.and_eq_true, decide_eq_true_eq, not_and]
    intro h1 h2
    exact h2 (h1.trans h)
  · rw [if_neg h]
    apply List.filter_congr
    intro x _
    by_cases hx : x.plc = q
    · simp [hx, h]
    · simp [hx]

/-- Both gatherers, alive. -/
structure RelQ (M : List (Plc × Pt)) (L : List Fr) : Prop where
  nodup : (M.map (·.1)).Nodup
  at_ : ∀ q, RelO q.2 (atQ L q) (getM M q)
theorem RelQ.nil : RelQ [] [] := ⟨by simp, fun q => rfl⟩
def RelG : Option (List (Plc × Pt)) → Option (List Fr) → Prop
  | some M, some L => RelQ M L
  | none, none => True
  | _, _ => False
theorem getM_put_other {α : Type} {q q' : Plc} (hn : q ≠ q') (v : α) (L : List (Plc × α)) : getM (putM L q v) q' = getM L q' := getM_put_ne hn v L
theorem feed_eq {M : List (Plc × Pt)} {L : List Fr} (h : RelQ M L) (f : Fr) : (feedM M f).1 = (feedQ L f).1 ∧ RelG (feedM M f).2 (feedQ L f).2 := by
  have ho : RelO f.k (atQ L f.plc) (getM M f.plc) := h.at_ f.plc
  have hr := refused_eq ho
  unfold feedM feedQ
  simp only []
  rw [hr]
  by_cases h0 : refusedD f (getM M f.plc) = 0
  · have n0 : ¬ (refusedD f (getM M f.plc) ≠ 0) := by simpa using h0
    rw [if_neg n0, if_neg n0]
    have hg := good_add ho h0
    by_cases hx : f.b = true ∧ f.d = true
    · rw [if_pos hx, if_pos hx]
      refine ⟨?_, delM_nodup h.nodup, fun q => ?_⟩
      · have hw := whole_froms (((getM M f.plc).getD pt0).add f).bytes (segsQ (atQ L f.plc ++ [f])) 0 (by rw [List.drop_zero]; exact hg.bytes)
        rw [hg.segs, hw]
      · rw [atQ_del]
        by_cases hq : q = f.plc
        · rw [if_pos hq, hq, getM_del_same _ h.nodup]
          rfl
        · rw [if_neg hq, getM_del_ne (fun e => hq e.symm)]
          exact h.at_ q
    · rw [if_neg hx, if_neg hx]
      refine ⟨rfl, putM_nodup h.nodup, fun q => ?_⟩
      rw [atQ_append]
      by_cases hq : f.plc = q
      · rw [if_pos hq, ← hq, getM_put_same]
        exact hg
      · rw [if_neg hq, getM_put_ne hq, List.append_nil]
        exact h.at_ q
  · rw [if_pos (by simpa using h0), if_pos (by simpa using h0)]
    exact ⟨rfl, trivial⟩

/-! ### how many are open -/
def distQ : List Plc → List Plc → List Plc
  | acc, [] => acc
  | acc, x :: r => distQ (if x ∈ acc then acc else acc ++ [x]) r
theorem distQ_snoc : ∀ (l : List Plc) (acc : List Plc) (x : Plc), distQ acc (l ++ [x]) = if x ∈ distQ acc l then distQ acc l else distQ acc l ++ [x]
  | [], acc, x => rfl
  | y :: l, acc, x => by
    show distQ _ (l ++ [x]) = _
    rw [distQ_snoc l]
    rfl
theorem distQ_mem : ∀ (l : List Plc) (acc : List Plc) (x : Plc), x ∈ distQ acc l ↔ x ∈ acc ∨ x ∈ l
  | [], acc, x => by simp [distQ]
  | y :: l, acc, x => by
    show x ∈ distQ _ l ↔ _
    rw [distQ_mem l]
    by_cases h : y ∈ acc
    · rw [if_pos h]
      constructor
      · rintro (h1 | h1)
        · exact .inl h1
        · exact .inr (by simp [h1])
      · rintro (h1 | h1)
        · exact .inl h1
        · rcases List.mem_cons.1 h1 with rfl | h2
          · exact .inl h
          · exact .inr h2
    · rw [if_neg h]
      simp only [List.mem_append, List.mem_cons, List.not_mem_nil, or_false]
      exact or_assoc
theorem distQ_nodup : ∀ (l : List Plc) (acc : List Plc), acc.Nodup → (distQ acc l).Nodup
  | [], _, h => h
  | y :: l, acc, h => by
    show (distQ _ l).Nodup
    apply distQ_nodup l
    split
    · exact h
    · rename_i hy
      rw [List.nodup_append]
      refine ⟨h, by simp, ?_⟩
      intro a ha b hb e
      simp at hb
      subst hb
      subst e
      exact hy ha
theorem nodup_len : ∀ {l m : List Plc}, l.Nodup → (∀ x ∈ l, x ∈ m) → l.length ≤ m.length
  | [], m, _, _ => by simp
  | a :: l, m, h, hs => by
    rw [List.nodup_cons] at h
    have ha := hs a (by simp)
    have ih := nodup_len (l := l) (m := m.erase a) h.2 (fun x hx => by
      have hne : x ≠ a := fun e => h.1 (e ▸ hx)
      exact (List.mem_erase_of_ne hne).2 (hs x (by simp [hx])))
    rw [List.length_erase_of_mem ha] at ih
    have := List.length_pos_of_mem ha
    simp only [List.length_cons]
    omega
theorem getM_isSome {α : Type} {q : Plc} : ∀ {L : List (Plc × α)}, (getM L q).isSome = true ↔ q ∈ L.map (·.1)
  | [] => by simp [getM]
  | x :: r => by
    unfold getM
    by_cases h : x.1 = q
    · simp [h]
    · rw [if_neg h, getM_isSome (L := r)]
      simp only [List.map_cons, List.mem_cons]
      constructor
      · exact .inr
      · rintro (h1 | h1)
        · exact absurd h1.symm h
        · exact h1
theorem open_eq {M : List (Plc × Pt)} {L : List Fr} (h : RelQ M L) : (distQ [] (L.map Fr.plc)).length = M.length := by
  have hm : ∀ q, q ∈ distQ [] (L.map Fr.plc) ↔ q ∈ M.map (·.1) := fun q => by
    rw [distQ_mem, ← getM_isSome]
    have ho := h.at_ q
    constructor
    · rintro (h1 | h1)
      · cases h1
      · obtain ⟨f, hf, rfl⟩ := List.mem_map.1 h1
        cases hg : getM M f.plc with
        | some p => rfl
        | none =>
          rw [hg] at ho
          have e : atQ L f.plc = [] := ho
          have : f ∈ atQ L f.plc := by unfold atQ; rw [List.mem_filter]; exact ⟨hf, by simp⟩
          rw [e] at this; cases this
    · intro h1
      obtain ⟨p, hp⟩ := Option.isSome_iff_exists.1 h1
      rw [hp] at ho
      obtain ⟨x, hx, _⟩ := ho.last
      have hxm := List.mem_of_getLast? hx
      unfold atQ at hxm
      rw [List.mem_filter] at hxm
      exact .inr (List.mem_map.2 ⟨x, hxm.1, by simpa using hxm.2⟩)
  have h1 := nodup_len (distQ_nodup (L.map Fr.plc) [] (by simp)) (fun x hx => (hm x).1 hx)
  have h2 := nodup_len h.nodup (fun x hx => (hm x).2 hx)
  rw [List.length_map] at h1 h2
  omega

end Go.Proofs.Ytocankfabgjjmaa
