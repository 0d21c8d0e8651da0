/-
  Writing into a row of numbers that may begin anywhere in its block: append, and the shift that takes a number out.
  Conditions: none but sizes.
-/
import Derived.Test.YtkcbkimconaegaaQpC
import Derived.Laws.IdiomCopy
import Derived.Shelf.Spec.SlicesInsert
namespace Go.Proofs.Ytkcbkimconaegaa
open Go.RowKit
set_option linter.unusedVariables false
set_option linter.unusedSimpArgs false
set_option maxRecDepth 100000

/-- Numbers as cells. -/
def encU (l : List Nat) : List Value := l.map fun (n : Nat) => Value.int .u64 (n : Int)
theorem encU_len (l : List Nat) : (encU l).length = l.length := by simp [encU]
theorem encU_one (l : List Nat) : ∀ v ∈ encU l, v.oneCell' = true := fun v hv => by
  obtain ⟨n, _, rfl⟩ := List.mem_map.1 hv
  rfl
theorem encU_get (l : List Nat) (j : Nat) : (encU l)[j]? = (l[j]?).map fun (n : Nat) => Value.int .u64 (n : Int) := by simp [encU]
theorem encU_all (l : List Nat) : (natC .u64).all l = encU l := by
  induction l with
  | nil => rfl
  | cons x r ih => rw [Code.all_cons, ih]; rfl
/-- The cells behind a store of several. -/
theorem setCells_row {b : Nat} {e : TypeId} : ∀ (vs : List Value) (o : Nat) (w : World) (cs : Array Value), w.heap[b]? = some (.cells cs e (0, 0)) → o + vs.length ≤ cs.size →
    ∃ cs', (w.setCells b o vs).heap[b]? = some (.cells cs' e (0, 0)) ∧ cs'.size = cs.size ∧ ∀ j, cs'[j]? = if o ≤ j ∧ j < o + vs.length then vs[j - o]? else cs[j]?
  | [], o, w, cs, h, hf => ⟨cs, h, rfl, fun j => by rw [if_neg (by simp only [List.length_nil]; omega)]⟩
  | v :: r, o, w, cs, h, hf => by
    simp only [List.length_cons] at hf
    obtain ⟨cs', h1, h2, h3⟩ := setCells_row r (o + 1) (w.setCell ⟨b, o, none⟩ v) (cs.setIfInBounds o v) (heap_setCell_same w b o cs e v h) (by rw [Array.size_setIfInBounds]; omega)
    refine ⟨cs', h1, by rw [h2, Array.size_setIfInBounds], fun j => ?_⟩
    rw [h3 j]
    by_cases c : j = o
    · subst c
      rw [if_neg (by omega), if_pos (by simp only [List.length_cons]; omega), Nat.sub_self, Array.getElem?_setIfInBounds_self, if_pos (by omega)]
      rfl
    · by_cases c2 : o + 1 ≤ j ∧ j < o + 1 + r.length
      · rw [if_pos c2, if_pos (by simp only [List.length_cons]; omega), show j - o = (j - (o + 1)) + 1 by omega, List.getElem?_cons_succ]
      · rw [if_neg c2, if_neg (by simp only [List.length_cons]; omega), Array.getElem?_setIfInBounds_ne (by omega)]
theorem setCells_moved {F : Nat → Prop} {w : World} {k : Nat} (hF : k < w.heap.size → F k) : ∀ (vs : List Value) (o : Nat) (w1 : World), MovedQ F w w1 → MovedQ F w (w1.setCells k o vs)
  | [], _, _, h => h
  | v :: r, o, w1, h => setCells_moved hF r (o + 1) _ (h.setCell hF o v)
theorem setCells_size (b : Nat) : ∀ (vs : List Value) (o : Nat) (w : World), (w.setCells b o vs).heap.size = w.heap.size
  | [], _, _ => rfl
  | v :: r, o, w => by
    show ((w.setCell ⟨b, o, none⟩ v).setCells b (o + 1) r).heap.size = _
    rw [setCells_size b r (o + 1)]
    simp
theorem MovedQ.grown {F : Nat → Prop} {w w' : World} (h : MovedQ F w w') (row : Option Nat) (hF : ∀ k, k < w.heap.size → F k → row = some k) : w.grownBy w' row :=
  ⟨h.os, h.tape, h.output, h.size, fun k hk hn => h.block k hk fun e => hn (hF k hk e).symm⟩
theorem MovedQ.of_grown {F : Nat → Prop} {w w' : World} {row : Option Nat} (h : w.grownBy w' row) (hF : ∀ k, row = some k → k < w.heap.size → F k) : MovedQ F w w' :=
  ⟨h.os, h.tape, h.output, h.size, fun k hk hn => h.block k hk fun e => hn (hF k e.symm hk)⟩

theorem infoN : (Try.prog.info? 22).map (fun i => (i.zero, i.size, i.bytes)) = some (some (.int .u64 0), 1, 8) := by kernel_rfl
theorem sizeN : (Try.prog.info? 22).map (·.size) = some 1 := by kernel_rfl
section
variable {w w' : World} {B d : Nat} {v x : Value} {l m : List Nat}
/-- The source of an append or a copy. -/
theorem src_of {A : Option Addr} {n c : Nat} (h : ShowsG (natC .u64) w d (.slice A n c) m) : Src Try.prog 1 42 (.slice A n c) n (encU m) w := by
  obtain ⟨hn, hc, _⟩ := h.lens
  by_cases h0 : 0 < m.length
  · obtain ⟨o, rfl, _, hcl⟩ := h.at_ h0
    refine Src.ofSlice w Try.underlying42 _ n c _ (by rw [encU_len]; omega) (fun j u hj => ?_) (encU_one m)
    rw [encU_get] at hj
    cases hm : m[j]? with
    | none => rw [hm] at hj; cases hj
    | some y =>
      rw [hm] at hj
      obtain ⟨hjl, rfl⟩ := List.getElem?_eq_some_iff.1 hm
      have := hcl j hjl 0 (by decide)
      simp only [natC, Nat.mul_one, Nat.add_zero, List.getElem?_cons_zero] at this
      rw [Addr.add_lit, this]
      exact hj
  · have hm : m = [] := List.eq_nil_of_length_eq_zero (by omega)
    subst hm
    simp only [List.length_nil] at hn
    subst hn
    cases A with
    | none => exact Src.ofNil w Try.underlying42 c
    | some a => exact Src.ofSlice w Try.underlying42 a 0 c [] (by simp) (fun j u hj => by simp at hj) (by simp)
theorem old_cells {w0 : World} (h : RdQ w B v l) (e0 : w0.heap = w.heap) : (Builtin.firstCells 1 l.length v).run Try.prog w0 = .ok (encU l).toArray w0 := by
  rcases h with ⟨rfl, rfl⟩ | ⟨g, off, c, cs, rfl, hB, hb, h1, h2, h3, h4⟩
  · exact run_firstCells_none w0 1 0 0 0
  · refine run_firstCells_some w0 1 l.length ⟨g, off, none⟩ l.length c _ (by rw [encU_len]; omega) (fun j u hj => ?_)
    rw [encU_get] at hj
    cases hm : l[j]? with
    | none => rw [hm] at hj; cases hj
    | some y =>
      rw [hm] at hj
      obtain ⟨hjl, rfl⟩ := List.getElem?_eq_some_iff.1 hm
      rw [Addr.add_lit, cell_of_row _ _ _ _ _ (0, 0) (by rw [e0]; exact hb), h4 j hjl]
      exact hj
theorem run_append_rd (h : RdQ w B v l) {A : Option Addr} {n c : Nat} (hm : ShowsG (natC .u64) w d (.slice A n c) m) (ty : TypeId) (hl : l.length + m.length ≤ 17592186044416) (hB : B ≤ w.heap.size) :
    ∃ v' w', (Builtin.append_ #[42, 42] ty #[v, .slice A n c]).run Try.prog w = .ok v' w' ∧ RdQ w' B v' (l ++ m) ∧ w.grownBy w' v.ownBlock ∧ (v'.ownBlock = v.ownBlock ∨ v'.ownBlock = some w.heap.size) := by
  obtain ⟨i, hi, hz, hs, hb⟩ := info_parts infoN
  have hsrc := src_of hm
  obtain ⟨hmn, hmc, _⟩ := hm.lens
  have hro := fun e0 => old_cells (w0 := w.drew) h e0
  rcases (show RdQ w B v l from h) with ⟨rfl, rfl⟩ | ⟨g, off, cap, cs, rfl, hg, hbk, h1, h2, h3, h4⟩
  · by_cases h0 : n = 0
    · subst h0
      have hm0 : m = [] := List.eq_nil_of_length_eq_zero hmn
      subst hm0
      refine ⟨.slice none 0 0, w, ?_, .inl ⟨rfl, rfl⟩, ⟨rfl, rfl, rfl, Nat.le_refl _, fun _ _ _ => rfl⟩, .inl rfl⟩
      have := hsrc.cells
      simp [Builtin.append_, run_underlying Try.underlying42, sizeOf, typeInfo, hi, hs, Builtin.lenOf, hsrc.len, this, encU]
    · have hr := run_append_grow_src (P := Try.prog) w 42 42 ty 22 i _ Try.underlying42 hi hz none 0 0 (encU []) (by rw [hs]; exact hro rfl) (.slice A n c) n (encU m) (by rw [hs]; exact hsrc) (by omega) (by omega) (by rw [hb]; exact growslice_fits (by omega) (by omega))
      refine ⟨_, _, hr, ?_, ⟨rfl, rfl, rfl, by simp, fun k hk _ => heap_alloc_old _ _ hk⟩, .inr rfl⟩
      have hge := grownCap_ge w (0 + n) 0 22
      rw [Nat.zero_add] at hge
      refine .inr ⟨w.heap.size, 0, grownCap w (0 + n) 0 22, _, by simp [hmn], hB, heap_alloc_new w.drew _, by simp [hmn]; omega, grownCap_le_maxLen _ _ _ _ (by simp only [maxLen]; omega), ?_, fun j hj => ?_⟩
      · simp [Builtin.zeroCells, Value.cells, encU, hmn]
        omega
      · have hj' : j < m.length := by simpa using hj
        rw [Nat.zero_add, Array.getElem?_append_left (by simp [encU]; omega)]
        simp [encU, hj']
  · by_cases hc : l.length + n ≤ cap
    · have hfit : off + l.length + (encU m).length ≤ cs.size := by rw [encU_len]; omega
      obtain ⟨cs', k1, k2, k3⟩ := setCells_row (encU m) (off + l.length) w cs hbk hfit
      have hr := run_append_room_src (P := Try.prog) w 42 42 ty 22 i Try.underlying42 hi g off l.length cap (.slice A n c) n (encU m) (by rw [hs]; exact hsrc) hc (fun j hj => by
        rw [hs, Nat.mul_one, cell_of_row _ _ _ _ _ (0, 0) hbk, Array.getElem?_eq_getElem (by omega)]; rfl) (fun j hj => frozen_of_row w g _ _ _ hbk)
      rw [hs, Nat.mul_one] at hr
      refine ⟨_, _, hr, ?_, (setCells_moved (F := fun k => k = g) (fun _ => rfl) _ _ _ (MovedQ.refl _ _)).grown _ (fun k _ e => by subst e; rfl), .inl rfl⟩
      refine .inr ⟨g, off, cap, cs', by rw [List.length_append, hmn], hg, k1, by rw [List.length_append]; omega, h2, by omega, fun j hj => ?_⟩
      rw [k3]
      rw [List.length_append] at hj
      by_cases c1 : j < l.length
      · rw [if_neg (by omega), h4 j c1, List.getElem_append_left c1]
      · rw [if_pos (by rw [encU_len]; omega), List.getElem_append_right (by omega), encU_get, show off + j - (off + l.length) = j - l.length by omega, List.getElem?_eq_getElem (by omega)]
        rfl
    · have hr := run_append_grow_src (P := Try.prog) w 42 42 ty 22 i _ Try.underlying42 hi hz (some ⟨g, off, none⟩) l.length cap (encU l) (by rw [hs]; exact hro rfl) (.slice A n c) n (encU m) (by rw [hs]; exact hsrc) (by omega) (by omega) (by rw [hb]; exact growslice_fits (by omega) (by omega))
      refine ⟨_, _, hr, ?_, ⟨rfl, rfl, rfl, by simp, fun k hk _ => heap_alloc_old _ _ hk⟩, .inr rfl⟩
      have hge := grownCap_ge w (l.length + n) cap 22
      refine .inr ⟨w.heap.size, 0, grownCap w (l.length + n) cap 22, _, by simp [hmn], hB, heap_alloc_new w.drew _, by simp [hmn]; omega, grownCap_le_maxLen _ _ _ _ (by simp only [maxLen]; omega), ?_, fun j hj => ?_⟩
      · simp [Builtin.zeroCells, Value.cells, encU, hmn]
        omega
      · rw [Nat.zero_add, Array.getElem?_append_left (by simp [encU] at hj ⊢; omega), show encU l ++ encU m = encU (l ++ m) from by simp [encU], List.getElem?_toArray, encU_get, List.getElem?_eq_getElem hj]
        rfl
end

end Go.Proofs.Ytkcbkimconaegaa
