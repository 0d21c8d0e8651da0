/-
  The program's Free of queues.
  Conditions: none but sizes.
-/
import Derived.Test.YtkcbkimconaegaaQpI
namespace Go.Proofs.Ytkcbkimconaegaa
open Go.RowKit
set_option linter.unusedVariables false
set_option linter.unusedSimpArgs false
set_option maxRecDepth 100000

theorem heap_setCells_ne {i b : Nat} (h : i ≠ b) : ∀ (vs : List Value) (o : Nat) (w : World), (w.setCells b o vs).heap[i]? = w.heap[i]?
  | [], _, _ => rfl
  | v :: r, o, w => (heap_setCells_ne h r (o + 1) (w.setCell ⟨b, o, none⟩ v)).trans (Below.heap_setCell _ _ _ _ (by show i ≠ b; exact h))
theorem zeroN : (Value.int IntKind.u64 0).cells = #[Value.int IntKind.u64 0] := rfl
section
variable {w w' : World} {B qb mb : Nat} {F : Nat → Prop} {q : QP}
theorem encU_src {cs : Array Value} {g off : Nat} {l : List Nat} (hb : w.heap[g]? = some (.cells cs 22 (0, 0))) (h : ∀ j (h : j < l.length), cs[off + j]? = some (.int .u64 l[j])) : ∀ j v, (encU l)[j]? = some v → w.cell? ((⟨g, off, none⟩ : Addr).add j) = some v := fun j u hj => by
  rw [encU_get] at hj
  cases hm : l[j]? with
  | none => rw [hm] at hj; cases hj
  | some y =>
    rw [hm] at hj
    obtain ⟨hjl, rfl⟩ := List.getElem?_eq_some_iff.1 hm
    rw [Addr.add_lit, cell_of_row _ _ _ _ _ (0, 0) hb, h j hjl]
    exact hj
set_option maxHeartbeats 2000000 in
/-- A number is put into a row at its place. -/
theorem pinsert_any {A : Option Addr} {n c x vb : Nat} {r s : List Nat} (h : RdQ w B (.slice A n c) (r ++ s)) (hv : w.heap[vb]? = some (.cells #[.int .u64 x] 22 (0, 0))) (hne : (Value.slice A n c).ownBlock ≠ some vb) (hl : (r ++ s).length < 1000000) (hB : B ≤ w.heap.size) :
    Calls Try.prog 46 #[.slice A n c, .int .i64 r.length, .slice (some ⟨vb, 0, none⟩) 1 1] w fun e w' => ∃ v', e = .returned v' ∧ RdQ w' B v' (r ++ x :: s) ∧ w.grownBy w' (Value.slice A n c).ownBlock ∧ (v'.ownBlock = (Value.slice A n c).ownBlock ∨ v'.ownBlock = some w.heap.size) := by
  have hsh : ShowsG (natC .u64) w vb (.slice (some ⟨vb, 0, none⟩) 1 1) [x] := ⟨_, 1, rfl, Nat.le_refl _, by simp [maxLen], fun _ => ⟨0, rfl, (Array.getElem?_eq_some_iff.1 hv).1, fun j hj k hk => by
    have hj0 : j = 0 := by simp at hj; exact hj
    have hk0 : k = 0 := by simp [natC] at hk; exact hk
    subst hj0 hk0
    rw [cell_of_row _ _ _ _ _ (0, 0) hv]
    rfl⟩⟩
  obtain ⟨A', c', e, hc1, hc2⟩ := h.form
  cases e
  by_cases hs : s = []
  · subst hs
    have hap := fun ty => run_append_rd h hsh ty (by simp only [List.length_singleton]; omega) hB
    obtain ⟨v', w1, hr, g1, g2, g3⟩ := hap 42
    rw [List.append_nil] at h hc1 g1 hr ⊢
    rw [List.append_nil] at hap g2 g3
    refine (pins_end A (v9 := v') (w1 := w1) (fun ty => ?_) hc1 hc2).mono ?_
    · exact hr
    · rintro e w' ⟨rfl, rfl⟩
      exact ⟨_, rfl, g1, g2, g3⟩
  · have hsl : 0 < s.length := List.length_pos_iff.2 hs
    have hlen : (r ++ s).length = r.length + s.length := List.length_append
    obtain ⟨g, off, cs, rfl, _, hgB, hb, h3, h1, h2, h4⟩ := h.at_ (by omega)
    have hgv : g ≠ vb := fun e => hne (by rw [e]; rfl)
    have hs4 : ∀ j (hj : j < s.length), cs[off + r.length + j]? = some (.int .u64 s[j]) := fun j hj => by
      have := h4 (r.length + j) (by omega)
      rw [show off + r.length + j = off + (r.length + j) by omega, this, List.getElem_append_right (by omega)]
      simp only [Nat.add_sub_cancel_left]
    have hr4 : ∀ j (hj : j < r.length), cs[off + j]? = some (.int .u64 r[j]) := fun j hj => by rw [h4 j (by omega), List.getElem_append_left hj]
    have hfin : ∀ j (hj : j < (r ++ x :: s).length), (r ++ x :: s)[j] = if hj1 : j < r.length then r[j] else if j = r.length then x else (s[j - (r.length + 1)]?).getD 0 := fun j hj => by
      by_cases c1 : j < r.length
      · rw [dif_pos c1, List.getElem_append_left c1]
      · rw [dif_neg c1, List.getElem_append_right (by omega)]
        by_cases c2 : j = r.length
        · subst c2
          rw [if_pos rfl]
          simp only [Nat.sub_self, List.getElem_cons_zero]
        · rw [if_neg c2]
          rw [List.length_append, List.length_cons] at hj
          have : j - (r.length + 1) < s.length := by omega
          simp only [show j - r.length = (j - (r.length + 1)) + 1 by omega, List.getElem_cons_succ]
          rw [List.getElem?_eq_getElem this]
          rfl
    have hlen2 : (r ++ x :: s).length = (r ++ s).length + 1 := by rw [List.length_append, List.length_append, List.length_cons]; omega
    by_cases hroom : (r ++ s).length + 1 ≤ c
    · obtain ⟨cs1, k1, k2, k3⟩ := setCells_row (encU s) (off + (r.length + 1)) w.drew cs hb (by rw [encU_len]; omega)
      obtain ⟨cs2, m1, m2, m3⟩ := setCells_row [Value.int .u64 x] (off + r.length) _ cs1 k1 (by simp only [List.length_singleton]; omega)
      have hv1 : (w.drew.setCells g (off + (r.length + 1)) (encU s)).heap[vb]? = some (.cells #[.int .u64 x] 22 (0, 0)) := (heap_setCells_ne (Ne.symm hgv) _ _ w.drew).trans hv
      refine (pins_room (g := g) (off := off) (i := r.length) (i1 := r.length + 1) (n := (r ++ s).length) (n1 := (r ++ s).length + 1) (vb := vb) (z := s.length) (w1 := w.drew.setCells g (off + (r.length + 1)) (encU s)) (w2 := (w.drew.setCells g (off + (r.length + 1)) (encU s)).setCells g (off + r.length) [Value.int .u64 x]) (fun lb cb => ?_) (fun ty dc sc => ?_) (fun ty dc => ?_) rfl rfl (by omega) hroom (by omega) hc2).mono ?_
      · rw [run_callFunc_extern Try.func56 (by kernel_rfl) (by kernel_rfl) (by kernel_rfl) (e := Extern.SlicesOverlaps.overlaps #[42, 42] #[4]) (by kernel_rfl),
          Lib.run_overlaps_apart w 42 4 22 Try.underlying42 1 sizeU ⟨vb, 0, none⟩ ⟨g, off + (r.length + 1), none⟩ 1 1 lb cb (Ne.symm hgv) 22 22 1 cs.size (by simp [World.shape?, hv]) (by simp [World.shape?, hb]) (by omega) (frozen_of_row w vb _ _ _ hv) (frozen_of_row w vb _ _ _ hv)]
        rfl
      · have := run_copy_cells (P := Try.prog) w.drew 42 42 ty 22 g (off + (r.length + 1)) ((r ++ s).length + 1 - (r.length + 1)) dc ⟨g, off + r.length, none⟩ ((r ++ s).length + 1 - r.length) sc (encU s) Try.underlying42 sizeN (by rw [encU_len]; simp only [Nat.min_def]; split <;> omega) (encU_src (w := w.drew) hb hs4) (fun j hj => by
          rw [encU_len] at hj
          rw [cell_of_row _ _ _ _ _ (0, 0) (show w.drew.heap[g]? = _ from hb), Array.getElem?_eq_getElem (by omega)]; rfl) (fun j hj => frozen_of_row w.drew g _ _ _ hb) (encU_one s)
        rw [encU_len] at this
        exact this
      · exact run_copy_cells (P := Try.prog) _ 42 42 ty 22 g (off + r.length) ((r ++ s).length + 1 - r.length) dc ⟨vb, 0, none⟩ 1 1 [Value.int .u64 x] Try.underlying42 sizeN (by simp only [List.length_singleton, Nat.min_def]; split <;> omega) (fun j v hj => by
          have hj0 : j = 0 := by
            cases j with
            | zero => rfl
            | succ j => simp at hj
          subst hj0
          rw [Addr.add_lit, cell_of_row _ _ _ _ _ (0, 0) hv1]
          exact hj) (fun j hj => by
          simp only [List.length_singleton] at hj
          rw [cell_of_row _ _ _ _ _ (0, 0) k1, Array.getElem?_eq_getElem (by omega)]; rfl) (fun j hj => frozen_of_row _ g _ _ _ k1) (fun v hv => by simp at hv; subst hv; rfl)
      · rintro e w' ⟨rfl, rfl⟩
        have hmv : MovedQ (fun k => k = g) w ((w.drew.setCells g (off + (r.length + 1)) (encU s)).setCells g (off + r.length) [Value.int .u64 x]) := setCells_moved (F := fun k => k = g) (fun _ => rfl) _ _ _ (setCells_moved (F := fun k => k = g) (fun _ => rfl) _ _ w.drew ⟨rfl, rfl, rfl, Nat.le_refl _, fun _ _ _ => rfl⟩)
        refine ⟨_, rfl, .inr ⟨g, off, c, cs2, by rw [hlen2], hgB, m1, by omega, hc2, by omega, fun j hj => ?_⟩, hmv.grown _ (fun k _ e => by subst e; rfl), .inl rfl⟩
        rw [hfin j hj, m3]
        simp only [List.length_singleton]
        by_cases c1 : j < r.length
        · rw [if_neg (by omega), dif_pos c1, k3, if_neg (by omega), hr4 j c1]
        · rw [dif_neg c1]
          by_cases c2 : j = r.length
          · subst c2
            rw [if_pos (by omega), if_pos rfl, Nat.sub_self]
            rfl
          · have c3 : j - (r.length + 1) < s.length := by omega
            rw [if_neg (by omega), if_neg c2, k3, if_pos (by rw [encU_len]; omega), encU_get, show off + j - (off + (r.length + 1)) = j - (r.length + 1) by omega, List.getElem?_eq_getElem c3]
            rfl
    · obtain ⟨i0, hi0, hz0, hs0, hb0⟩ := info_parts infoN
      obtain ⟨G, hG⟩ : ∃ G, G = grownCap w ((r ++ s).length + 1) c 22 := ⟨_, rfl⟩
      obtain ⟨Z, hZ⟩ : ∃ Z : Array Value, Z = Builtin.zeroCells (Value.int IntKind.u64 0).cells ((r ++ s).length + 1 - r.length) ++ Builtin.zeroCells (Value.int IntKind.u64 0).cells (G - ((r ++ s).length + 1)) := ⟨_, rfl⟩
      have hge : (r ++ s).length + 1 ≤ G := by rw [hG]; exact grownCap_ge w _ _ _
      have hGm : G ≤ maxLen := by rw [hG]; exact grownCap_le_maxLen _ _ _ _ (by simp only [maxLen]; omega)
      have hZs : Z.size = G - r.length := by
        rw [hZ, zeroN]
        simp [Builtin.zeroCells]
        omega
      obtain ⟨W1, hW1⟩ : ∃ W1, W1 = w.drew.alloc (.cells ((encU r).toArray ++ Z) 22) := ⟨_, rfl⟩
      have hap : ∀ ty, (Builtin.append_ #[42, 3] ty #[.slice (some ⟨g, off, none⟩) r.length c, .int .i64 ((r ++ s).length + 1 - r.length : Nat)]).run Try.prog w = .ok (.slice (some ⟨w.heap.size, 0, none⟩) ((r ++ s).length + 1) G) W1 := fun ty => by
        have hold : (Builtin.firstCells i0.size r.length (.slice (some ⟨g, off, none⟩) r.length c)).run Try.prog w.drew = .ok (encU r).toArray w.drew := by
          rw [hs0]
          exact run_firstCells_some w.drew 1 r.length ⟨g, off, none⟩ r.length c (encU r) (by rw [encU_len]; omega) (encU_src (w := w.drew) hb hr4)
        have hx := Lib.run_append_grow_zeros w 42 3 ty 22 i0 _ .i64 .i64 Try.underlying42 Try.underlying3 hi0 hz0 (some ⟨g, off, none⟩) r.length c (encU r) hold ((r ++ s).length + 1 - r.length) (by omega) (by omega) (by omega) (by omega) (by rw [hb0]; omega) (by rw [hb0]; exact growslice_fits (by omega) (by omega))
        rw [show r.length + ((r ++ s).length + 1 - r.length) = (r ++ s).length + 1 by omega, ← hG] at hx
        rw [hx, hW1, hZ, Array.append_assoc]
      have hn1 : W1.heap[w.heap.size]? = some (.cells ((encU r).toArray ++ Z) 22 (0, 0)) := by rw [hW1]; exact heap_alloc_new w.drew _
      have hgw : g < w.heap.size := (Array.getElem?_eq_some_iff.1 hb).1
      have hvw : vb < w.heap.size := (Array.getElem?_eq_some_iff.1 hv).1
      have hv1 : W1.heap[vb]? = some (.cells #[.int .u64 x] 22 (0, 0)) := by rw [hW1]; exact (heap_alloc_old w.drew _ hvw).trans hv
      have hb1 : W1.heap[g]? = some (.cells cs 22 (0, 0)) := by rw [hW1]; exact (heap_alloc_old w.drew _ hgw).trans hb
      have hRs : ((encU r).toArray ++ Z).size = G := by rw [Array.size_append, List.size_toArray, encU_len, hZs]; omega
      obtain ⟨cs1, k1, k2, k3⟩ := setCells_row [Value.int .u64 x] r.length W1 _ hn1 (by rw [hRs]; simp only [List.length_singleton]; omega)
      obtain ⟨cs2, m1, m2, m3⟩ := setCells_row (encU s) (r.length + 1) (W1.setCells w.heap.size r.length [Value.int .u64 x]).drew cs1 k1 (by rw [k2, hRs, encU_len]; omega)
      have hb2 : (W1.setCells w.heap.size r.length [Value.int .u64 x]).heap[g]? = some (.cells cs 22 (0, 0)) := (heap_setCells_ne (by omega) _ _ W1).trans hb1
      refine (pins_grow (g := g) (off := off) (i := r.length) (i1 := r.length + 1) (n := (r ++ s).length) (n1 := (r ++ s).length + 1) (vb := vb) (z := (r ++ s).length + 1 - r.length) (G := G) (H := w.heap.size) (w1 := W1) (w2 := W1.setCells w.heap.size r.length [Value.int .u64 x]) (w3 := (W1.setCells w.heap.size r.length [Value.int .u64 x]).drew.setCells w.heap.size (r.length + 1) (encU s)) hap (fun ty dc => ?_) (fun ty dc sc => ?_) rfl rfl rfl (by omega) hc1 (by omega) hge (by omega) hc2 hGm).mono ?_
      · exact run_copy_cells (P := Try.prog) _ 42 42 ty 22 w.heap.size r.length ((r ++ s).length + 1 - r.length) dc ⟨vb, 0, none⟩ 1 1 [Value.int .u64 x] Try.underlying42 sizeN (by simp only [List.length_singleton, Nat.min_def]; split <;> omega) (fun j v hj => by
          have hj0 : j = 0 := by
            cases j with
            | zero => rfl
            | succ j => simp at hj
          subst hj0
          rw [Addr.add_lit, cell_of_row _ _ _ _ _ (0, 0) hv1]
          exact hj) (fun j hj => by
          simp only [List.length_singleton] at hj
          rw [cell_of_row _ _ _ _ _ (0, 0) hn1, Array.getElem?_eq_getElem (by rw [hRs]; omega)]; rfl) (fun j hj => frozen_of_row _ _ _ _ _ hn1) (fun v hv => by simp at hv; subst hv; rfl)
      · have := run_copy_cells (P := Try.prog) (W1.setCells w.heap.size r.length [Value.int .u64 x]).drew 42 42 ty 22 w.heap.size (r.length + 1) ((r ++ s).length + 1 - (r.length + 1)) dc ⟨g, off + r.length, none⟩ ((r ++ s).length - r.length) sc (encU s) Try.underlying42 sizeN (by rw [encU_len]; simp only [Nat.min_def]; split <;> omega) (encU_src (w := (W1.setCells w.heap.size r.length [Value.int .u64 x]).drew) hb2 hs4) (fun j hj => by
          rw [encU_len] at hj
          rw [cell_of_row _ _ _ _ _ (0, 0) (show (W1.setCells w.heap.size r.length [Value.int .u64 x]).drew.heap[w.heap.size]? = _ from k1), Array.getElem?_eq_getElem (by rw [k2, hRs]; omega)]; rfl) (fun j hj => frozen_of_row (W1.setCells w.heap.size r.length [Value.int .u64 x]).drew _ _ _ _ k1) (encU_one s)
        rw [encU_len] at this
        rw [show (r ++ s).length - r.length = s.length by omega] at this ⊢
        exact this
      · rintro e w' ⟨rfl, rfl⟩
        have hz1 : W1.heap.size = w.heap.size + 1 := by rw [hW1]; simp
        have hmv0 : MovedQ (fun k => k = g) w W1 := by rw [hW1]; exact ⟨rfl, rfl, rfl, by simp, fun k hk _ => heap_alloc_old w.drew _ hk⟩
        have hmv : MovedQ (fun k => k = g) w ((W1.setCells w.heap.size r.length [Value.int .u64 x]).drew.setCells w.heap.size (r.length + 1) (encU s)) := setCells_moved (fun h => absurd h (by omega)) _ _ _ (by
          have := setCells_moved (F := fun k => k = g) (k := w.heap.size) (fun h => absurd h (by omega)) [Value.int .u64 x] r.length _ hmv0
          exact ⟨this.os, this.tape, this.output, this.size, this.block⟩)
        refine ⟨_, rfl, .inr ⟨w.heap.size, 0, G, cs2, by rw [hlen2], hB, m1, by omega, hGm, by rw [m2, k2, hRs]; omega, fun j hj => ?_⟩, hmv.grown _ (fun k _ e => by subst e; rfl), .inr rfl⟩
        rw [hfin j hj, Nat.zero_add, m3]
        by_cases c1 : j < r.length
        · rw [if_neg (by omega), dif_pos c1, k3, if_neg (by omega), Array.getElem?_append_left (by rw [List.size_toArray, encU_len]; exact c1), List.getElem?_toArray, encU_get, List.getElem?_eq_getElem c1]
          rfl
        · rw [dif_neg c1]
          by_cases c2 : j = r.length
          · subst c2
            rw [if_neg (by omega), if_pos rfl, k3, if_pos (by simp only [List.length_singleton]; omega), Nat.sub_self]
            rfl
          · have c3 : j - (r.length + 1) < s.length := by omega
            rw [if_pos (by rw [encU_len]; omega), if_neg c2, encU_get, List.getElem?_eq_getElem c3]
            rfl
set_option maxHeartbeats 2000000 in
theorem rfree_any (h : PW w B qb q F) (ho : q.ok) (hn : q.l.length ≤ 1000000) (hB : B ≤ w.heap.size) (id f : Nat) (hi : id < 18446744073709551616) (hi2 : f < 18446744073709551616) : Calls Try.prog 16 #[.pointer (some ⟨qb, 0, none⟩), .int .u64 id, .int .u64 f] w (AnsP w B qb F (q.hands id f 0)) := by
  have HD := Lib.hid (rdropP_any h ho hn id f hi hi2)
  unfold AnsP at HD ⊢
  rcases drop_cases q id f with ⟨E, hE, e, e3, e2⟩ | ⟨i, hf, hf0, hat, e, e3, e2⟩
  · rw [e] at HD
    rw [e3]
    have tE : ((E : Int) == 0) = false := by rw [beq_eq_false_iff_ne]; omega
    clear h ho e e2 e3
    go_enter Try.func16, Try.ntmps16
    go_wp2_with fail
    refine HD.out.mono ?_
    rintro e w1 ⟨rfl, hl1⟩
    go_wp2_with fail
    go_ret
    exact ⟨rfl, hl1⟩
  · obtain ⟨o, a, b, hs⟩ := find_some ho hf
    have hof : o = f := by rw [← hat, hs.at_]
    have ho0 : o ≠ 0 := by rw [hof]; exact hf0
    rw [e, hs.cut] at HD
    rw [e3]
    have e4 : q.own i 0 = { q with l := a ++ (id, 0) :: b } := by rw [← hs.own 0]; rfl
    rw [e4]
    have hlo := fun n (hn : n ∈ ofQ 0 a) => hs.lo _ (mem_ofQ.1 hn)
    have hhi := fun n (hn : n ∈ ofQ 0 b) => hs.hi _ (mem_ofQ.1 hn)
    have hlen : (ofQ 0 a ++ ofQ 0 b).length < 1000000 := by
      have h2 := two_len q.l
      have : ofQ 0 q.l = ofQ 0 a ++ ofQ 0 b := by rw [hs.row, ofQ_append, ofQ_cons, if_neg ho0]; rfl
      have h3 : 0 < (heldQ q.l).length := List.length_pos_iff.2 (by
        rw [hs.row, heldQ_append, heldQ_cons, if_neg ho0]
        simp)
      rw [this] at h2
      omega
    have HX := Lib.hid (fun w1 (hl : LeftP w B qb F { q with l := a ++ b } w1) => (show ∃ A c w2 w3, w1.cell? ⟨qb, 3, none⟩ = some (.slice A (ofQ 0 a ++ ofQ 0 b).length c) ∧
        Calls Try.prog 42 #[.slice A (ofQ 0 a ++ ofQ 0 b).length c, .int .u64 id] w1 (fun e w' => e = .returned (.tuple #[.int .i64 (ofQ 0 a).length, .bool false]) ∧ Below w1.heap.size w1 w') ∧ w2 = w1 ∧ w3 = w1 ∧
        ∀ w4, Below w1.heap.size w1 w4 → w4.cell? ⟨qb, 3, none⟩ = some (.slice A (ofQ 0 a ++ ofQ 0 b).length c) ∧
          Calls Try.prog 46 #[.slice A (ofQ 0 a ++ ofQ 0 b).length c, .int .i64 (ofQ 0 a).length, .slice (some ⟨w4.heap.size, 0, none⟩) 1 1] (w4.alloc (.cells #[.int .u64 id] 22)) (fun e w' => ∃ A' n' c', e = .returned (.slice A' n' c') ∧ w'.frozen? ⟨qb, 3, none⟩ = false ∧ (∃ x, w'.cell? ⟨qb, 3, none⟩ = some x) ∧ LeftP w B qb F { q with l := a ++ (id, 0) :: b } (w'.setCell ⟨qb, 3, none⟩ (.slice A' n' c'))) from by
      obtain ⟨F1, ⟨v, mb, M, h1, rfl⟩, hsF, hmv⟩ := hl
      have hrow : ofQ 0 (a ++ b) = ofQ 0 a ++ ofQ 0 b := ofQ_append _ _ _
      have hq1 := h1.row
      simp only [hrow] at hq1
      obtain ⟨A, c, rfl, hc1, hc2⟩ := hq1.form
      obtain ⟨d, _, hsh⟩ := hq1.shows
      refine ⟨A, c, w1, w1, h1.box.c3, (pfind_any A c _ d id (ofQ 0 a) (ofQ 0 b) w1 rfl hsh hlo (fun y hy => Nat.le_of_lt (hhi y hy)) (by omega)).mono fun e w' hx => ⟨?_, hx.2⟩, rfl, rfl, fun w4 hb4 => ?_⟩
      · rw [hx.1, decide_eq_false (fun e => by have := hhi id (List.mem_of_mem_head? e); omega)]
      have h4 := h1.below hb4
      refine ⟨h4.box.c3, ?_⟩
      have hbA : Below w4.heap.size w4 (w4.alloc (.cells #[.int .u64 id] 22)) := (Below.refl _ _).alloc (Nat.le_refl _) _
      have h5 := h4.below hbA
      have hr5 := h5.row
      simp only [hrow] at hr5
      have hBw : B ≤ (w4.alloc (.cells #[.int .u64 id] 22)).heap.size := by have := h5.hB; have := h5.box.lt; omega
      refine (pinsert_any (x := id) (vb := w4.heap.size) hr5 (heap_alloc_new w4 _) (fun e => by have := (h4.row.block _ e).2; omega) hlen hBw).mono ?_
      rintro e w' ⟨v', rfl, g1, g2, g3⟩
      obtain ⟨A', c', hv', _, _⟩ := g1.form
      subst hv'
      have k1 : w'.heap[qb]? = _ := (g2.block qb h5.box.lt (fun e => h5.neRow e.symm)).trans h5.box
      have k2 : MapS u64Fam w' mb M := h5.map.keep (g2.block mb h5.map.lt (fun e => h5.neRowM e.symm))
      have hbx : BoxP w' qb q.lim q.kept q.last _ mb := k1
      refine ⟨_, _, _, rfl, hbx.fr 3, ⟨_, hbx.c3⟩, ?_⟩
      have hPI := PI.store3 (l := a ++ (id, 0) :: b) hbx (by rw [show ofQ 0 (a ++ (id, 0) :: b) = ofQ 0 a ++ id :: ofQ 0 b from by rw [ofQ_append, ofQ_cons, if_pos rfl]; rfl]; exact g1) k2 (h5.mq.same (by rw [heldQ_append, heldQ_append, heldQ_cons, if_pos rfl]; rfl)) h5.hB h5.hM
      have hm14 : MovedQ (FP qb mb (.slice A (ofQ 0 a ++ ofQ 0 b).length c)) w1 (w4.alloc (.cells #[.int .u64 id] 22)) := MovedQ.of_below (hb4.trans (hbA.mono hb4.size))
      have hz : w1.heap.size ≤ (w4.alloc (.cells #[.int .u64 id] 22)).heap.size := hm14.size
      refine LeftP.trans hsF hmv (LeftP.mk_ hPI ((hm14.trans (MovedQ.of_grown (F := FP qb mb (.slice A (ofQ 0 a ++ ofQ 0 b).length c)) g2 fun k e _ => .inr (.inr e)) fun k hk => .inl hk).setCell (fun _ => .inl rfl) _ _) (fun k hk => ?_))
      rcases g3 with e | e
      · exact .inl (by rw [← e]; exact hk)
      · rw [e] at hk
        cases hk
        exact .inr hz))
    generalize (ofQ 0 a ++ ofQ 0 b).length = n at *
    generalize (ofQ 0 a).length = k at *
    clear h ho e e2 e3 e4 hs hf hat hlo hhi hlen
    go_enter Try.func16, Try.ntmps16
    go_wp2_with fail
    refine HD.out.mono ?_
    rintro e w1 ⟨rfl, hl1⟩
    obtain ⟨A, c, w2, w3, c3, hF, rfl, rfl, HI⟩ := HX.out w1 hl1
    have HI := Lib.hid HI
    have HF := Lib.hid hF
    clear hF hl1
    go_wp2_with fail
    refine HF.out.mono ?_
    rintro e w5 ⟨rfl, hb5⟩
    obtain ⟨c3b, hI⟩ := HI.out w5 hb5
    have HI2 := Lib.hid hI
    clear hI
    go_wp2_with fail
    refine HI2.out.mono ?_
    rintro e w6 ⟨A', n', c', rfl, f6, ⟨x6, c6⟩, hl6⟩
    have HL6 := Lib.hid hl6
    clear hl6
    go_wp2_with fail
    go_ret
    exact ⟨rfl, HL6.out⟩
end

end Go.Proofs.Ytkcbkimconaegaa
