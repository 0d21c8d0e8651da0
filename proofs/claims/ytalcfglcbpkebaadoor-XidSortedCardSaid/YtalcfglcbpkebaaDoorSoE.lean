/-
  The contract of slices.SortFunc at a row of names that is the caller's own, under Compare.
  Conditions: none but sizes.
-/
import Derived.Test.YtalcfglcbpkebaaDoorSoD
import Derived.Test.YtalcfglcbpkebaaDoorLayB
import Derived.Shelf.SlSortCmp.NoneTotal
import Derived.Lib.RowBridge
namespace Go.Proofs.YtalcfglcbpkebaaDoor
open Go.RowKit Go.Sort
set_option linter.unusedVariables false
set_option linter.unusedSimpArgs false

section
variable {α : Type} [Inhabited α] (C : Code α)
theorem flat_all (l : List α) : (flatK C.enc C.sz l.toArray).toList = C.all l := by
  have hs : (flatK C.enc C.sz l.toArray).size = l.length * C.sz := by simp
  apply List.ext_getElem?
  intro t
  by_cases h : t < l.length * C.sz
  · have hk := C.pos
    have hq : t / C.sz < l.length := Nat.div_lt_of_lt_mul (by rw [Nat.mul_comm]; exact h)
    have hr := Nat.mod_lt t hk
    have e1 := C.all_get l (t / C.sz) (t % C.sz) hq hr
    rw [show t / C.sz * C.sz + t % C.sz = t by have := Nat.div_add_mod t C.sz; rw [Nat.mul_comm] at this; omega] at e1
    have e2 := get_flatK C.enc C.sz l.toArray t (by simpa using h)
    rw [e1, Array.getElem?_toList, Array.getElem?_eq_getElem (by omega), List.getElem?_eq_getElem (by rw [C.len]; exact hr)]
    rw [getElem!_pos _ t (by omega)] at e2
    rw [e2, show l.toArray[t / C.sz]! = l[t / C.sz] from by rw [getElem!_pos l.toArray _ (by simpa using hq)]; simp]
    rw [getElem!_pos (C.enc l[t / C.sz]) (t % C.sz) (by rw [C.len]; exact hr)]
  · rw [List.getElem?_eq_none (by simp; omega), List.getElem?_eq_none (by rw [C.all_length]; omega)]

/-- Stores one behind the other. -/
def setAll (xs : List Value) : Nat → List Value → List Value
  | _, [] => xs
  | o, v :: r => setAll (xs.set o v) (o + 1) r
theorem setAll_eq : ∀ (vs : List Value) (o : Nat) (xs : List Value), o + vs.length ≤ xs.length → setAll xs o vs = xs.take o ++ vs ++ xs.drop (o + vs.length)
  | [], o, xs, _ => by simp [setAll]
  | v :: r, o, xs, h => by
    simp only [List.length_cons] at h
    rw [setAll, setAll_eq r (o + 1) (xs.set o v) (by simp; omega)]
    have e1 : (xs.set o v).take (o + 1) = xs.take o ++ [v] := by
      rw [List.take_succ_eq_append_getElem (by simp; omega), List.take_set, List.set_eq_of_length_le (by rw [List.length_take]; exact Nat.min_le_left _ _), List.getElem_set_self]
    have e2 : (xs.set o v).drop (o + 1 + r.length) = xs.drop (o + (r.length + 1)) := by
      rw [List.drop_set_of_lt (by omega), show o + 1 + r.length = o + (r.length + 1) by omega]
    rw [e1, e2]
    simp
end
section
variable {α : Type} {C : Code α} {e : TypeId} {base b n c : Nat} {l : List α}
theorem row_setCells {sz : Nat} : ∀ (vs : List Value) (o : Nat) (w : World) (xs : List Value), w.ownsRow base e sz (.slice (some ⟨b, 0, none⟩) n c) n xs → (w.setCells b o vs).ownsRow base e sz (.slice (some ⟨b, 0, none⟩) n c) n (setAll xs o vs)
  | [], _, _, _, h => h
  | v :: r, o, w, xs, h => row_setCells r (o + 1) _ _ (World.ownsRow.stored h o v).1
theorem OwnG.fill {w : World} (h : OwnG C e w base (.slice (some ⟨b, 0, none⟩) n c) l) (s : List α) (hs : s.length = l.length) : OwnG C e (w.setCells b 0 (C.all s)) base (.slice (some ⟨b, 0, none⟩) n c) s := by
  obtain ⟨h1, _⟩ := h.len_
  subst h1
  have := row_setCells (C.all s) 0 w (C.all l) h
  rw [setAll_eq _ _ _ (by rw [C.all_length, C.all_length, hs]; omega), List.take_zero, List.nil_append, List.drop_of_length_le (by rw [C.all_length, C.all_length, hs]; omega), List.append_nil] at this
  unfold OwnG
  rw [hs]
  exact this
theorem OwnG.holdsK [Inhabited α] {w : World} (h : OwnG C e w base (.slice (some ⟨b, 0, none⟩) n c) l) (hp : 0 < n) : HoldsK C.enc C.sz w b 0 l.toArray := by
  obtain ⟨h1, _⟩ := h.len_
  subst h1
  obtain ⟨b', e1, _, _, hf, _⟩ := h.at_ hp
  cases e1
  intro j hj
  have hj' : j < l.length * C.sz := by simpa using hj
  refine ⟨?_, hf _⟩
  rw [Nat.zero_add, World.ownsRow.cellAt h j hj', ← flat_all, Array.getElem?_toList, Array.getElem?_eq_getElem hj, getElem!_pos _ j hj]
  rfl
end

theorem ltV_swo : SWO (ltOf cmpV) where
  irrefl x := by unfold ltOf; rw [cmpV_is.refl]; rfl
  trans x y z h1 h2 := by
    unfold ltOf at *
    simp only [decide_eq_true_eq] at *
    exact cmpV_is.strict _ _ _ h1 (by omega)
  ntrans x y z h1 h2 := by
    unfold ltOf at *
    simp only [decide_eq_false_iff_not] at *
    have a1 := cmpV_is.anti x y
    have a2 := cmpV_is.anti y z
    have a3 := cmpV_is.anti x z
    have := cmpV_is.tr z y x (by omega) (by omega)
    omega
theorem ltV_tot (x y : XV) (h1 : ltOf cmpV x y = false) (h2 : ltOf cmpV y x = false) : x = y := by
  unfold ltOf at *
  simp only [decide_eq_false_iff_not] at *
  have := cmpV_is.anti x y
  exact cmpV_is.eq0 _ _ (by omega)

/-- The row that the sort leaves. -/
def sortedV (l : List XV) : List XV := l.mergeSort fun x y => !(ltOf cmpV) y x
theorem sortedV_perm (l : List XV) : (sortedV l).Perm l := List.mergeSort_perm _ _
theorem sortedV_length (l : List XV) : (sortedV l).length = l.length := (sortedV_perm l).length_eq
theorem sortedV_up (l : List XV) : (sortedV l).Pairwise (fun a b => cmpV a b ≤ 0) := by
  have h := List.pairwise_mergeSort (le := fun x y => !(ltOf cmpV) y x) (fun a b d h1 h2 => by
    simp only [Bool.not_eq_true'] at *
    exact ltV_swo.ntrans _ _ _ h2 h1) (fun a b => by
    simp only [Bool.or_eq_true, Bool.not_eq_true']
    unfold ltOf
    simp only [decide_eq_false_iff_not]
    have := cmpV_is.anti a b
    omega) l
  refine h.imp fun {a b} hab => ?_
  simp only [Bool.not_eq_true'] at hab
  unfold ltOf at hab
  simp only [decide_eq_false_iff_not] at hab
  have := cmpV_is.anti a b
  omega

theorem cmp_lays (blk off size : Nat) (w : World) : CmpLays Tryd.prog 13 #[] xidC.enc xidC.sz cmpV blk off size w := fun m os dk hs x y => compare_any x.1 y.1 x.2.1 x.2.2 y.2.1 y.2.2 _

theorem sort_any (A : Option Addr) (c n base : Nat) (l : List XV) (w : World) (ho : OwnG xidC 24 w base (.slice A n c) l) (hb : n ≤ 1000) (hbase : base ≤ w.heap.size) :
    Calls Tryd.prog 49 #[.slice A n c, .func (.func 13) #[] #[]] w fun e w' => e = .returned (.tuple #[]) ∧ OwnG xidC 24 w' base (.slice A n c) (sortedV l) ∧ Below base w w' := by
  obtain ⟨hn, hc1, hc2⟩ := ho.len_
  by_cases h0 : n = 0
  · subst h0
    have : l = [] := List.eq_nil_of_length_eq_zero hn
    subst this
    have h := AnyF.slices_SortFunc_none (P := Tryd.prog) (ρ := sortX_ren) { sortX with } A c (.func (.func 13) #[] #[]) w
    change Calls Tryd.prog 49 _ _ _ at h
    exact h.mono fun e w' ⟨he, hw⟩ => ⟨he, by rw [hw]; simpa [sortedV] using ho, by rw [hw]; exact Below.refl _ _⟩
  · obtain ⟨b, rfl, hbb, hbw⟩ := own_cells ho (by omega)
    have hH := ho.holdsK (by omega)
    have h := AnyQ.slices_SortFunc_total sortX xidC.sz Tryd.isAgg24 Tryd.sizeOf24 xidC.enc xidC.len xidC.one cmpV ltV_swo 13 #[] b 0 c l.toArray w (enters_of Tryd.func13 (by kernel_rfl) rfl) (cmp_lays _ _ _ _) hH hbw (by simp; omega) ltV_tot
    change Calls Tryd.prog 49 _ _ _ at h
    rw [show l.toArray.size = n by simpa using hn] at h
    refine h.mono fun e w' ⟨he, q, os, hw⟩ => ⟨he, ?_⟩
    have hp := Go.Lib.putRow_eq_setCells id w b 0 (flatK xidC.enc xidC.sz l.toArray) (flatK xidC.enc xidC.sz (sortedV l).toArray).toList q hH (by simp [sortedV_length])
    rw [Array.toArray_toList, flat_all, List.map_id] at hp
    have hw2 : w' = grow (((w.drewN q).setCells b 0 (xidC.all (sortedV l))).drewN 0) os := by
      rw [hw]
      show grow (putRow id (Sort.ahead w q) b 0 (flatK xidC.enc xidC.sz (sortedV l).toArray)) os = _
      rw [hp]
      rfl
    have h1 : OwnG xidC 24 ((w.drewN q).setCells b 0 (xidC.all (sortedV l))) base (.slice (some ⟨b, 0, none⟩) n c) (sortedV l) := OwnG.fill (w := w.drewN q) ho _ (sortedV_length l)
    have h2 : Below base w ((w.drewN q).setCells b 0 (xidC.all (sortedV l))) := below_setCells hbb _ _ _ (below_drewN (Below.refl _ _) q)
    rw [hw2]
    exact ⟨h1.below (Go.Lib.below_grow _ _ (Nat.le_refl _) 0 os) (Nat.le_refl _), h2.trans (Go.Lib.below_grow base _ (Nat.le_trans hbase h2.size) 0 os)⟩

end Go.Proofs.YtalcfglcbpkebaaDoor
