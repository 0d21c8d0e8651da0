/-
  Words for rows of the call's own beside other memory of its own: worlds of which all blocks but some are masked; where an append leaves its row.
  Conditions: none. Nothing here speaks of the program.
-/
import Derived.Test.YtnafibnhmhbfiaaValG
namespace Go.Proofs.Ytnafibnhmhbfiaa
open Go.RowKit
set_option linter.unusedVariables false
set_option linter.unusedSimpArgs false

theorem ShowsT.cells5 {w : World} {t : Tree} {vs : List Value} (h : ShowsT w t vs) : ∃ k n s a3 n3 c3 a4 n4 c4, vs = [.int .u8 (k : Nat), .int .u64 (n : Nat), .string s, .slice a3 n3 c3, .slice a4 n4 c4] := by
  obtain ⟨x, rfl⟩ := h.cell5
  exact ⟨_, _, _, _, _, _, _, _, _, rfl⟩

open Classical in
/-- The world, all blocks but those in P masked. -/
noncomputable def pm (P : Nat → Prop) (w : World) : World := { w with heap := w.heap.mapIdx fun i o => if P i then o else .cells #[] 0 (0, 0) }
theorem pm_size (P : Nat → Prop) (w : World) : (pm P w).heap.size = w.heap.size := by simp [pm]
theorem pm_hi {P : Nat → Prop} {k : Nat} {w : World} (h : P k) : (pm P w).heap[k]? = w.heap[k]? := by
  simp only [pm, Array.getElem?_mapIdx]
  cases w.heap[k]? with
  | none => rfl
  | some o => simp [h]
theorem pm_lo {P : Nat → Prop} {k : Nat} {w : World} (h : ¬ P k) {i : Nat} {v : Value} : (pm P w).cell? ⟨k, i, none⟩ ≠ some v := by
  intro hc
  by_cases hs : k < w.heap.size
  · have e : (pm P w).heap[k]? = some (.cells #[] 0 (0, 0)) := by simp [pm, Array.getElem?_mapIdx, hs, h]
    rw [cell_of_row _ k i _ 0 (0, 0) e] at hc
    simp at hc
  · have e : (pm P w).heap[k]? = none := Array.getElem?_eq_none (by rw [pm_size]; omega)
    simp [World.cell?, e] at hc
theorem pm_lt {P : Nat → Prop} {k i : Nat} {w : World} {v : Value} (h : (pm P w).cell? ⟨k, i, none⟩ = some v) : P k ∧ k < w.heap.size := by
  refine ⟨Classical.byContradiction fun hp => pm_lo hp h, ?_⟩
  by_cases hkw : k < w.heap.size
  · exact hkw
  · have e : (pm P w).heap[k]? = none := Array.getElem?_eq_none (by rw [pm_size]; omega)
    simp [World.cell?, e] at h
theorem low_lt {B k i : Nat} {w : World} {v : Value} (h : (lowm B w).cell? ⟨k, i, none⟩ = some v) : B ≤ k ∧ k < w.heap.size := by
  refine ⟨Classical.byContradiction fun hp => lowm_lo (by omega) h, ?_⟩
  by_cases hkw : k < w.heap.size
  · exact hkw
  · have e : (lowm B w).heap[k]? = none := Array.getElem?_eq_none (by rw [lowm_size]; omega)
    simp [World.cell?, e] at h
theorem pm_pm {P Q : Nat → Prop} {w w' : World} (hs : w.heap.size ≤ w'.heap.size) (h : ∀ k, P k → k < w.heap.size → Q k ∧ w'.heap[k]? = w.heap[k]?) : Sub (pm P w) (pm Q w') := by
  refine ⟨by rw [pm_size, pm_size]; exact hs, fun k i v hc => ?_⟩
  obtain ⟨hP, hk⟩ := pm_lt hc
  obtain ⟨hQ, he⟩ := h k hP hk
  rw [← hc]
  exact World.cell?_of_block (w := pm P w) (by show (pm Q w').heap[k]? = (pm P w).heap[k]?; rw [pm_hi hQ, pm_hi hP, he])
theorem low_pm {B : Nat} {Q : Nat → Prop} {w w' : World} (hs : w.heap.size ≤ w'.heap.size) (h : ∀ k, B ≤ k → k < w.heap.size → Q k ∧ w'.heap[k]? = w.heap[k]?) : Sub (lowm B w) (pm Q w') := by
  refine ⟨by rw [lowm_size, pm_size]; exact hs, fun k i v hc => ?_⟩
  obtain ⟨hP, hk⟩ := low_lt hc
  obtain ⟨hQ, he⟩ := h k hP hk
  rw [← hc]
  exact World.cell?_of_block (w := lowm B w) (by show (pm Q w').heap[k]? = (lowm B w).heap[k]?; rw [pm_hi hQ, lowm_hi hP, he])
theorem pm_low {B : Nat} {P : Nat → Prop} {w : World} (h : ∀ k, P k → B ≤ k) : Sub (pm P w) (lowm B w) := by
  refine ⟨by rw [lowm_size, pm_size]; exact Nat.le_refl _, fun k i v hc => ?_⟩
  obtain ⟨hP, hk⟩ := pm_lt hc
  rw [← hc]
  exact World.cell?_of_block (w := pm P w) (by show (lowm B w).heap[k]? = (pm P w).heap[k]?; rw [pm_hi hP, lowm_hi (h k hP)])

/-- Blocks from B on that are neither of two rows. -/
def Free (B : Nat) (v1 v2 : Value) (k : Nat) : Prop := B ≤ k ∧ v1.ownBlock ≠ some k ∧ v2.ownBlock ≠ some k
/-- The two rows lie apart. -/
def Apart (v1 v2 : Value) : Prop := ∀ k, v1.ownBlock = some k → v2.ownBlock ≠ some k
theorem Apart.symm {v1 v2 : Value} (h : Apart v1 v2) : Apart v2 v1 := fun k h1 h2 => h k h2 h1

section
variable {α : Type} {C : Code α} {e : TypeId} {w : World} {base : Nat} {v : Value} {l : List α}
/-- Where an append of something leaves its row: where it was, or in a new block. -/
theorem append_where {P : Program} (t ty : TypeId) (i : TypeInfo) (z : Value) (bytes : Nat) (ht : P.underlying t = some (.slice e)) (hi : P.info? e = some i) (hz : i.zero = some z)
    (hsize : i.size = C.sz) (hby : i.bytes = bytes) (hown : OwnG C e w base v l) (x : Value) (m : List α) (d : Nat) (hx : ShowsG C w d x m) (hm : 0 < m.length)
    (hb : (l.length + m.length) * bytes ≤ 140737488355328) (hb63 : l.length + m.length ≤ maxLen) (v' : Value) (w' : World) (hr : (Builtin.append_ #[t, t] ty #[v, x]).run P w = .ok v' w') :
    v'.ownBlock = v.ownBlock ∨ v'.ownBlock = some w.heap.size := by
  obtain ⟨A, c, rfl, hmc, hcm, hcell⟩ := hx
  obtain ⟨o, rfl, _, hc⟩ := hcell hm
  have hnews : ∀ (j : Nat) (u : Value), (C.all m)[j]? = some u → w.cell? ((⟨d, o, none⟩ : Addr).add j) = some u := fun j u hu => by
    obtain ⟨q, k, hq, rfl, hk, hu'⟩ := C.all_at m hu
    rw [add_plain', hc q hq k hk]
    exact hu'
  have hsm : l.length + m.length ≤ 9223372036854775807 := by simp only [maxLen] at hb63; omega
  have h0 := hown.2
  rcases h0 with ⟨rfl, hn⟩ | ⟨g, cap, cur, rfl, hbg, hg, hnc, hcm', hcs, htake⟩
  · have hr2 := run_append_nil (P := P) w t ty e i z ht hi hz ⟨d, o, none⟩ m.length c (C.all m) (by rw [C.all_length, hsize]) hnews hm (by omega) (by rw [hby]; have := hb; rw [hn, Nat.zero_add] at this; omega)
    rw [hr] at hr2
    injection hr2 with h1 _
    subst h1
    exact .inr rfl
  · by_cases hroom : l.length + m.length ≤ cap
    · obtain ⟨w2, hr2, _⟩ := run_append_fits (P := P) w base t ty e i C.sz ht hi hsize g l.length cap (C.all l) hown ⟨d, o, none⟩ m.length c (C.all m) (C.all_length m) hnews (C.all_one m) hroom
      rw [hr] at hr2
      injection hr2 with h1 _
      subst h1
      exact .inl rfl
    · have holds : ∀ (j : Nat) (u : Value), (C.all l)[j]? = some u → w.cell? ((⟨g, 0, none⟩ : Addr).add j) = some u := World.ownsRow.cells (g := g) hown rfl
      have hr2 := run_append_grow (P := P) w t ty e i z ht hi hz ⟨g, 0, none⟩ l.length cap (C.all l) (by rw [C.all_length, hsize]) holds ⟨d, o, none⟩ m.length c (C.all m) (by rw [C.all_length, hsize]) hnews (by omega) (by omega) (growslice_fits (by omega) (by rw [hby]; exact hb))
      rw [hr] at hr2
      injection hr2 with h1 _
      subst h1
      exact .inr rfl

theorem wpList_appendW (C : Code α) {P : Program} (w : World) {ops : Array Oper} {rest : List Oper} {o : Oper} {a : Act} {Q : Exit → Act → World → Prop} (hgd : o.guard = none) (s x : Operand) (t : TypeId)
    (ho : o.op = .call { callee := .builtin .append, args := #[s, x], argTypes := #[t, t] })
    (base : Nat) (e : TypeId) (z : Value) (bytes : Nat) (ht : P.underlying t = some (.slice e)) (hi : (P.info? e).map (fun i => (i.zero, i.size, i.bytes)) = some (some z, C.sz, bytes)) (hzs : z.cells.size = C.sz)
    (v : Value) (l : List α) (hs : a.eval s = v) (hown : OwnG C e w base v l) (d : Nat) (y : Value) (m : List α) (hx : a.eval x = y) (hm : ShowsG C w d y m) (hm0 : 0 < m.length)
    (hb : (l.length + m.length) * bytes ≤ 140737488355328) (hb63 : l.length + m.length ≤ 140737488355328) (hbase : base ≤ w.heap.size)
    (h : ∀ v' w', OwnG C e w' base v' (l ++ m) → w.grownBy w' v.ownBlock → (v'.ownBlock = v.ownBlock ∨ v'.ownBlock = some w.heap.size) → wpList P ops Q rest (a.put o.dst v') w') : wpList P ops Q (o :: rest) a w := by
  obtain ⟨i, hi0, hz, hs1, hb1⟩ := info_parts hi
  obtain ⟨v', w', hr, h2, h3⟩ := run_appendG (P := P) (C := C) t o.type i z bytes ht hi0 hz hs1 hb1 hzs hown y m hm hb (by simp only [maxLen]; omega) hbase
  have h4 := append_where (P := P) (C := C) t o.type i z bytes ht hi0 hz hs1 hb1 hown y m d hm hm0 hb (by simp only [maxLen]; omega) v' w' hr
  refine wpList_plain hgd fun K hK => ?_
  unfold Oper.wp execOp
  simp only [ho, resolve, invoke, builtin, Sem.run_bind, Sem.run_pure, Result.andThen_ok, List.map_toArray, List.map_cons, List.map_nil, hs, hx, hr]
  exact hK _ _ (h v' w' h2 h3 h4)
end

/-- An append onto one of two rows leaves what lies beside them, and the rows apart. -/
theorem free_left {B : Nat} {v1 v1' v2 : Value} {w wa w' : World} (hwa : Below w.heap.size w wa) (hg : wa.grownBy w' v1.ownBlock) (h : v1'.ownBlock = v1.ownBlock ∨ v1'.ownBlock = some wa.heap.size) : Sub (pm (Free B v1 v2) w) (pm (Free B v1' v2) w') := by
  have hsz := hwa.size
  refine pm_pm (Nat.le_trans hsz hg.size) fun k hk hkw => ⟨⟨hk.1, ?_, hk.2.2⟩, ?_⟩
  · rcases h with h | h
    · rw [h]; exact hk.2.1
    · rw [h]; intro e; have := Option.some.inj e; omega
  · exact (hg.block k (by omega) (fun e => hk.2.1 e.symm)).trans (hwa.block k hkw)
theorem free_right {B : Nat} {v1 v2 v2' : Value} {w wa w' : World} (hwa : Below w.heap.size w wa) (hg : wa.grownBy w' v2.ownBlock) (h : v2'.ownBlock = v2.ownBlock ∨ v2'.ownBlock = some wa.heap.size) : Sub (pm (Free B v1 v2) w) (pm (Free B v1 v2') w') := by
  have hsz := hwa.size
  refine pm_pm (Nat.le_trans hsz hg.size) fun k hk hkw => ⟨⟨hk.1, hk.2.1, ?_⟩, ?_⟩
  · rcases h with h | h
    · rw [h]; exact hk.2.2
    · rw [h]; intro e; have := Option.some.inj e; omega
  · exact (hg.block k (by omega) (fun e => hk.2.2 e.symm)).trans (hwa.block k hkw)
theorem apart_left {v1 v1' v2 : Value} {wa : World} (ha : Apart v1 v2) (h : v1'.ownBlock = v1.ownBlock ∨ v1'.ownBlock = some wa.heap.size) (h2 : ∀ k, v2.ownBlock = some k → k < wa.heap.size) : Apart v1' v2 := by
  intro k hk hk2
  rcases h with h | h
  · exact ha k (h ▸ hk) hk2
  · rw [h] at hk
    have := h2 k hk2
    have := Option.some.inj hk
    omega

end Go.Proofs.Ytnafibnhmhbfiaa
