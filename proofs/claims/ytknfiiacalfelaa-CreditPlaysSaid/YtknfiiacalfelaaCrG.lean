/-
  The program's Tags.
  Conditions: none but sizes.
-/
import Derived.Test.YtknfiiacalfelaaCrR
import Derived.Test.YtknfiiacalfelaaLift
import Derived.StillTailTactics
import Derived.Deep.CutRange
import Derived.Deep.CutBlock
import Derived.Deep.DeepCutAuto
import Derived.Sort.CutIn
namespace Go.Proofs.Ytknfiiacalfelaa
open Go.RowKit Go.Shelf
set_option linter.unusedVariables false
set_option linter.unusedSimpArgs false
set_option maxRecDepth 100000
attribute [local go_sem] Oper.semAt_some

theorem wp_appendG {α : Type} {e : TypeId} {d base : Nat} {v : Value} {l : List α} (C : Code α) {P : Program} (w : World) {o : Oper} {a : Act} {K : Act → World → Prop} {Q : Exit → Act → World → Prop} (s x : Operand) (t : TypeId)
    (ho : o.op = .call { callee := .builtin .append, args := #[s, x], argTypes := #[t, t] })
    (z : Value) (bytes : Nat) (ht : P.underlying t = some (.slice e)) (hi : (P.info? e).map (fun i => (i.zero, i.size, i.bytes)) = some (some z, C.sz, bytes)) (hzs : z.cells.size = C.sz)
    (hs : a.eval s = v) (hown : OwnG C e w base v l) (y : Value) (m : List α) (hx : a.eval x = y) (hm : ShowsG C w d y m)
    (hb : (l.length + m.length) * bytes ≤ 140737488355328) (hb63 : l.length + m.length ≤ 140737488355328) (hbase : base ≤ w.heap.size)
    (h : ∀ v' w', OwnG C e w' base v' (l ++ m) → w.grownBy w' v.ownBlock → K (a.put o.dst v') w') : Oper.wp P o a w K Q := by
  obtain ⟨i, hi0, hz, hs1, hb1⟩ := info_parts hi
  obtain ⟨v', w', hr, h2, h3⟩ := run_appendG (P := P) (C := C) t o.type i z bytes ht hi0 hz hs1 hb1 hzs hown y m hm hb (by simp only [maxLen]; omega) hbase
  unfold Oper.wp execOp
  simp only [ho, resolve, invoke, builtin, Sem.run_bind, Sem.run_pure, Result.andThen_ok, List.map_toArray, List.map_cons, List.map_nil, hs, hx, hr]
  exact h v' w' h2 h3
theorem infoStr : (Try.prog.info? 9).map (fun i => (i.zero, i.size, i.bytes)) = some (some (.string ⟨#[]⟩), strC.sz, 16) := by kernel_rfl
section
variable {w w' : World} {B qb rb mb sv : Nat} {X : List ST} {F : Nat → Prop} {s : CP}
theorem CI.rot0 (h : CI w B qb rb mb sv X s) : RotC w rb rb X ⟨s.l, []⟩ X [] ∨ True := .inr trivial
/-- From the start once round. -/
theorem CI.rotS (h : CI w B qb rb mb sv X s) (ho : s.ok) : RotC w rb rb X ⟨s.l, []⟩ X [] := by
  refine ⟨by simp, ?_, h.link, by simp [blS], ?_, by simp⟩
  · show rotA [] [] s.l = _
    rw [rotA_none (fun y hy => (ho.tags y hy).1), h.row]; simp
  · rw [show blS [] = [] from rfl, List.nodup_append]
    refine ⟨h.nod, by simp, fun a ha b hb e => ?_⟩
    simp at hb; subst hb; subst e
    exact (List.nodup_cons.1 h.nodR).1 ha
/-- What Tags holds between two rounds. -/
def TagI (w w5 : World) (n N : Nat) (X : List ST) (pre : List { x : ST // x ∈ X }) (W : World) : Prop :=
  ∃ v, W.heap[n]? = some (.cells #[v] 30 (0, 0)) ∧ OwnG strC 9 W n v (pre.map fun x => x.1.t) ∧ v.ownBlock ≠ some n ∧ Below n w W ∧ N ≤ W.heap.size ∧ KeepK (fun k => k < N ∧ k ≠ n) w5 W
theorem tagI_own {w w5 : World} {n N : Nat} (hn : n < N) : OwnFrom N (TagI w w5 n N X) := fun pre W W' row ⟨v, h1, h2, h3, h4, h5, h6⟩ hg hr => by
  have hk : ∀ k, k < N → W'.heap[k]? = W.heap[k]? := fun k hk => hg.block k (by omega) (fun e => by have := (hr k e.symm).1; omega)
  refine ⟨v, (hk n hn).trans h1, h2.keep fun g hgv => ?_, h3, h4.grown hg (by omega) (fun k e => by have := (hr k e).1; omega), Nat.le_trans h5 hg.size, fun k hkk => (hk k hkk.1).trans (h6 k hkk)⟩
  refine hg.block g (h2.block g hgv).2 (fun e => ?_)
  obtain ⟨_, o, ho, hc⟩ := hr g e.symm
  rcases h2.2 with ⟨rfl, _⟩ | ⟨g', cap, cur, rfl, _, hb, _⟩
  · cases hgv
  · cases hgv
    rw [hb] at ho
    cases ho
    cases hc

set_option maxHeartbeats 8000000 in
theorem tags_any (h : CW w B qb s F) (hn : s.l.length ≤ 1000000) :
    Calls Try.prog 19 #[.pointer (some ⟨qb, 0, none⟩)] w fun e w' => ∃ v, e = .returned v ∧ OwnG strC 9 w' w.heap.size v (s.l.map (·.1)) ∧ Below w.heap.size w w' := by
  obtain ⟨ho, rb, mb, sv, X, h1, hF⟩ := (show CW w B qb s F from h)
  obtain ⟨w1, hw1⟩ : ∃ w1, w1 = w.alloc (.cells #[.slice none 0 0] 30) := ⟨_, rfl⟩
  obtain ⟨n, hn0⟩ : ∃ n, n = w.heap.size := ⟨_, rfl⟩
  have hb1 : Below w.heap.size w w1 := by rw [hw1]; exact (Below.refl _ _).alloc (Nat.le_refl _) _
  have hsz1 : w1.heap.size = n + 1 := by rw [hw1, hn0]; simp
  have x0 : w1.heap[n]? = some (.cells #[.slice none 0 0] 30 (0, 0)) := by rw [hw1, hn0]; exact heap_alloc_new w _
  have h1' := h1.below hb1
  have HM := Lib.hid ((made_box h1.box).mono fun e w' hx => (show e = .returned (.bool true) ∧ w = w' from ⟨hx.1, hx.2.symm⟩))
  have HW1 := Lib.hid hw1
  have HN0 := Lib.hid hn0
  have HSZ1 := Lib.hid hsz1
  have HB1 := Lib.hid hb1
  have HF0 : Hid (∀ k, FC qb rb mb X k → k < n) := Lib.hid fun k hk => by rw [hn0]; exact (h1.foot k hk).2
  have HX0 := Lib.hid x0
  have HH1 := Lib.hid h1'
  have HLEN : Hid (X.length ≤ 1000000) := Lib.hid (by have := hn; rw [h1.row, List.length_map] at this; exact this)
  have c0 : w1.cell? ⟨qb, 0, none⟩ = some (.pointer (some ⟨rb, 0, none⟩)) := h1'.box.c0
  have HBE := Lib.hid (fun w => behind_any rb rb w)
  clear hw1 hn0 hsz1 hb1 h h1 x0 h1' hn
  refine (callsIn_wide (n := 0)).1 (callsIn_of_wp_marks Try.func19 rfl trivial ?_ rfl)
  simp only [Try.ntmps19, List.size_toArray, List.length_cons, List.length_nil, Nat.reduceAdd, Nat.reduceSub, Array.replicate_succ, Array.replicate_zero, List.push_toArray, List.append_toArray, List.nil_append, List.cons_append]
  refine wpIn_wide.2 ?_
  go_upto_region 4 with (go_at_call 23; refine HM.out.mono ?_; rintro e w5 ⟨rfl, rfl⟩)
  rw [← HW1.out, ← HN0.out]
  go_still_tail 10, (by kernel_rfl)
  change wpList _ _ _ _ _ w1.drew
  go_wp2_with (go_at_call 31; refine (HBE.out _).mono ?_; rintro e w5 ⟨rfl, hw5⟩; have HW5 := Lib.hid hw5; clear hw5)
  have hw5 := HW5.out
  obtain ⟨N, hN⟩ : ∃ N, N = n + 1 + 1 + 1 := ⟨_, rfl⟩
  have hsz5 : w5.heap.size = N := by rw [hw5, World.size_alloc, World.size_alloc, show w1.drew.heap.size = w1.heap.size from rfl, HSZ1.out, hN]
  have hb5 : Below w1.heap.size w1 w5 := by
    rw [hw5]
    exact ((below_drew1 (Below.refl w1.heap.size w1)).alloc (Nat.le_refl _) _).alloc (by simp) _
  have k5 : ∀ k, k < n + 1 → w5.heap[k]? = w1.heap[k]? := fun k hk => hb5.block k (by rw [HSZ1.out]; exact hk)
  have g5 : w5.heap[n + 1]? = some (.cells #[nodeV rb] 52 (0, 0)) := by
    have := heap_alloc_new w1.drew (.cells #[nodeV rb] 52)
    rw [show w1.drew.heap.size = n + 1 from HSZ1.out] at this
    rw [hw5]
    exact (heap_alloc_old _ _ (by rw [World.size_alloc, show w1.drew.heap.size = n + 1 from HSZ1.out]; omega)).trans this
  have q5 : w5.heap[n + 1 + 1]? = some (.cells #[nodeV rb] 59 (0, 0)) := by
    have := heap_alloc_new (w1.drew.alloc (.cells #[nodeV rb] 52)) (.cells #[nodeV rb] 59)
    rw [World.size_alloc, show w1.drew.heap.size = n + 1 from HSZ1.out] at this
    rw [hw5]
    exact this
  have h5 := HH1.out.below hb5
  have hrot := h5.rotS ho
  have hseq := h5.stopsK (K := fun k => k < N ∧ k ≠ n) 4 hrot (fun k hk => by rw [hsz5]; exact hk.1) (fun a ha => by have := HF0.out a (FC_node ha); exact ⟨by omega, by omega⟩) (gb := n + 1) (xb := n + 1 + 1) (by rw [cell_of_row _ _ _ _ _ (0, 0) g5]; rfl) (by rw [cell_of_row _ _ _ _ _ (0, 0) q5]; rfl) ⟨by omega, by omega⟩ ⟨by omega, by omega⟩
  clear hw5
  refine (wpIn_wide (n := 5)).1 ?_
  rw [HSZ1.out]
  have hBn : Below n w w5 := (by rw [HN0.out]; exact HB1.out : Below n w w1).trans (hb5.mono (by rw [HSZ1.out]; omega))
  refine' wpIn_rangeFunc_ownF rfl (by decide) (gf := 36) (lb := #[.pointer (some ⟨n + 1 + 1, 0, none⟩), .pointer (some ⟨n + 1, 0, none⟩)]) rfl trivial (enters_of Try.func36 (by kernel_rfl) rfl)
    hseq keepK_t (keepK_b (fun k hk => by rw [hsz5]; exact hk.1)) (Below.refl _ _) (fun _ => rfl)
    (TagI w w5 n N X)
    (fun _ _ _ => False)
    (by rw [hsz5]; exact tagI_own (by omega))
    (fun cc _ _ _ _ hs _ _ => hs)
    ⟨.slice none 0 0, (k5 n (by omega)).trans HX0.out, OwnG.nil_ _ _ _ _, by simp [Value.ownBlock], hBn, by omega, fun k _ => rfl⟩ _ ?assign ?body ?done ?stop
  case assign =>
    intro l x W K hK
    gi_wp2
    exact hK
  case body =>
    rintro l pre ⟨x, hx⟩ W ⟨v, hv, hrow, hvn, hBW, hNW, hKW⟩ hpl
    have hCI := h5.keep (w' := W) fun k hk => by have := HF0.out k hk; exact hKW k ⟨by omega, by omega⟩
    have hS := hCI.seat x hx
    have hxn : x.b < n := HF0.out _ (.inr (.inr (.inr ⟨x, hx, rfl⟩)))
    obtain ⟨Av, cv, rfl, hlc, hcm⟩ := hrow.form
    have hlen : pre.length ≤ 1000000 := by have := HLEN.out; simp at hpl; omega
    have ht40 : x.t.length ≤ 40 := (ho.tags (x.t, x.c) (by rw [h5.row]; exact List.mem_map.2 ⟨x, hx, rfl⟩)).2
    obtain ⟨q, hq⟩ : ∃ q, q = (pre.map fun x => x.1.t).length := ⟨_, rfl⟩
    have hql : q ≤ 1000000 := by rw [hq]; simpa using hlen
    rw [← hq] at hv hrow hvn hlc
    have e4 := hS.c0
    have e5 : W.cell? ⟨n, 0, none⟩ = some (.slice Av q cv) := by rw [cell_of_row _ _ _ _ _ (0, 0) hv]; rfl
    have hnW : n < W.heap.size := by omega
    have HBX : Hid (∀ w9, Below W.heap.size W.drew w9 → w9.cell? ⟨n, 0, none⟩ = some (.slice Av q cv) ∧ (w9.alloc (.cells #[.string (str8 x.t)] 9)).cell? ⟨n, 0, none⟩ = some (.slice Av q cv)) := Lib.hid fun w9 hb => by
      have h1 := (cell_keepH (i := 0) (hb.block n hnW)).trans e5
      have hs : W.heap.size ≤ w9.heap.size := hb.size
      exact ⟨h1, (cell_keepH (heap_alloc_old _ _ (by omega))).trans h1⟩
    have HC := Lib.hid (fun w => clone_any (str8 x.t) w (by rw [str8_size]; omega))
    have hfm : Try.prog.follows .mixedOrders = true := by kernel_rfl
    obtain ⟨q2, hq2⟩ : ∃ q2, q2 = ((pre.map fun x => x.1.t) ++ [x.t]).length := ⟨_, rfl⟩
    have hrowl : (pre.map fun x => x.1.t).length = q := hq.symm
    have HSZA : Hid (((pre.map fun x => x.1.t).length + [x.t].length) * 16 ≤ 140737488355328 ∧ (pre.map fun x => x.1.t).length + [x.t].length ≤ 140737488355328) := Lib.hid (by rw [hrowl]; simp; omega)
    have HBASE : Hid (∀ w9, Below W.heap.size W.drew w9 → n ≤ (w9.alloc (.cells #[.string (str8 x.t)] 9)).heap.size) := Lib.hid fun w9 hb => by
      have hs : W.heap.size ≤ w9.heap.size := hb.size
      simp; omega
    have HAPP : Hid (∀ w9, Below W.heap.size W.drew w9 → OwnG strC 9 (w9.alloc (.cells #[.string (str8 x.t)] 9)) n (.slice Av q cv) (pre.map fun x => x.1.t) ∧ ShowsG strC (w9.alloc (.cells #[.string (str8 x.t)] 9)) w9.heap.size (.slice (some ⟨w9.heap.size, 0, none⟩) 1 1) [x.t]) := Lib.hid fun w9 hb =>
      ⟨(hrow.keep fun g hg => hb.block g (hrow.block g hg).2).alloc_ _, ShowsG.lit (C := strC) [x.t] (by simp [Code.all, strC]) (by simp [maxLen])⟩
    have HLAST : Hid (∀ w9 w10 v', Below W.heap.size W.drew w9 → OwnG strC 9 w10 n v' ((pre.map fun x => x.1.t) ++ [x.t]) → (w9.alloc (.cells #[.string (str8 x.t)] 9)).grownBy w10 (Value.slice Av q cv).ownBlock → ∃ A2 c2, v' = .slice A2 q2 c2 ∧ w10.cell? ⟨n, 0, none⟩ = some (.slice Av q cv) ∧ w10.frozen? ⟨n, 0, none⟩ = false ∧
        (KeepsOthers W (w10.setCell ⟨n, 0, none⟩ (.slice A2 q2 c2)) ∧ KeepK (fun k => k < N ∧ k ≠ n) W (w10.setCell ⟨n, 0, none⟩ (.slice A2 q2 c2)) ∧ TagI w w5 n N X (pre ++ [⟨x, hx⟩]) (w10.setCell ⟨n, 0, none⟩ (.slice A2 q2 c2)))) := Lib.hid fun w9 w10 v' hb ho hg => by
      obtain ⟨A2, c2, hv2, _, _⟩ := ho.form
      rw [← hq2] at hv2
      subst hv2
      have hs9 : W.heap.size ≤ w9.heap.size := hb.size
      have hsa : (w9.alloc (.cells #[.string (str8 x.t)] 9)).heap.size = w9.heap.size + 1 := by simp
      have hs10 := hg.size
      -- a block of W that is not the row's
      have kk : ∀ k, k < W.heap.size → (Value.slice Av q cv).ownBlock ≠ some k → w10.heap[k]? = W.heap[k]? := fun k hk hne => (hg.block k (by omega) (fun e => hne e.symm)).trans ((heap_alloc_old _ _ (by omega)).trans (hb.block k hk))
      have k10 := kk n hnW hvn
      have hbx := k10.trans hv
      -- the new row lies in the old one's block, or in a new one
      have hnew : (Value.slice A2 q2 c2).ownBlock ≠ some n := by
        rcases ho.2 with ⟨e, _⟩ | ⟨g, cap, cur, e, _, hgb, _⟩
        · intro h; rw [e] at h; cases h
        · intro h
          rw [e] at h
          cases h
          rw [hbx] at hgb
          injection hgb with hgb
          injection hgb with _ h2 _
          exact absurd h2 (by decide)
      have hkn : ∀ k, k ≠ n → (w10.setCell ⟨n, 0, none⟩ (.slice A2 q2 c2)).heap[k]? = w10.heap[k]? := fun k hk => heap_setO _ hk
      refine ⟨A2, c2, rfl, by rw [cell_of_row _ _ _ _ _ (0, 0) hbx]; rfl, frozen_of_row _ _ 0 _ _ hbx, ⟨?_, ?_⟩, ?_, ?_⟩
      · simp; omega
      · intro k o hk hc
        have hkl := (Array.getElem?_eq_some_iff.1 hk).1
        have h1 : k ≠ n := by rintro rfl; rw [hv] at hk; cases hk; cases hc
        have h2 : (Value.slice Av q cv).ownBlock ≠ some k := fun e => by
          rcases hrow.2 with ⟨e2, _⟩ | ⟨g, cap, cur, e2, _, hgb, _⟩
          · rw [e2] at e; cases e
          · rw [e2] at e
            cases e
            rw [hgb] at hk; cases hk; cases hc
        exact (hkn k h1).trans ((kk k hkl h2).trans hk)
      · intro k hk
        refine (hkn k hk.2).trans (kk k (by have := hk.1; omega) fun e => ?_)
        have hbk := (hrow.block k e)
        have h3 : k = n + 1 ∨ k = n + 1 + 1 := by have := hk.1; have := hk.2; omega
        have h4 := hKW k hk
        rcases hrow.2 with ⟨e2, _⟩ | ⟨g, cap, cur, e2, _, hgb, _⟩
        · rw [e2] at e; cases e
        · rw [e2] at e
          cases e
          rw [hgb] at h4
          rcases h3 with rfl | rfl
          · rw [g5] at h4
            injection h4 with h4
            injection h4 with _ h5 _
            exact absurd h5 (by decide)
          · rw [q5] at h4
            injection h4 with h4
            injection h4 with _ h5 _
            exact absurd h5 (by decide)
      · have hown := hrow
        have hbl : Below n w (w10.setCell ⟨n, 0, none⟩ (.slice A2 q2 c2)) := by
          refine below_set ?_ (Nat.le_refl _) _
          have e1 : Below n w W.drew := below_drew1 hBW
          have e2 : Below n w w9 := e1.trans (hb.mono (by omega))
          exact (e2.alloc (by omega) _).grown hg (by omega) (fun k e => (hrow.block k e).1)
        refine ⟨.slice A2 q2 c2, heap_setCell_same w10 n 0 #[.slice Av q cv] 30 _ hbx, ?_, hnew, hbl, ?_, ?_⟩
        · have e1 : ((pre ++ [(⟨x, hx⟩ : { x : ST // x ∈ X })]).map fun x => x.1.t) = (pre.map fun x => x.1.t) ++ [x.t] := by simp
          rw [e1]
          exact ho.keep fun g hg2 => hkn g (fun e => by subst e; exact hnew hg2)
        · simp; omega
        · intro k hk
          refine (hkn k hk.2).trans ((kk k (by have := hk.1; omega) fun e => ?_).trans (hKW k hk))
          have h3 : k = n + 1 ∨ k = n + 1 + 1 := by have := hk.1; have := hk.2; have := (hrow.block k e); omega
          have h4 := hKW k hk
          rcases hrow.2 with ⟨e2, _⟩ | ⟨g, cap, cur, e2, _, hgb, _⟩
          · rw [e2] at e; cases e
          · rw [e2] at e
            cases e
            rw [hgb] at h4
            rcases h3 with rfl | rfl
            · rw [g5] at h4
              injection h4 with h4
              injection h4 with _ h5 _
              exact absurd h5 (by decide)
            · rw [q5] at h4
              injection h4 with h4
              injection h4 with _ h5 _
              exact absurd h5 (by decide)
    have HROW := Lib.hid hrow
    have HV := Lib.hid hv
    have HBW := Lib.hid hBW
    have HKW := Lib.hid hKW
    have HNW := Lib.hid hNW
    have HQ := Lib.hid hq
    have HN := Lib.hid hN
    have hnd : nodeV (blX X ⟨x, hx⟩) = .pointer (some ⟨x.b, 0, none⟩) := rfl
    rw [hnd]
    clear hnd hN hsz5 hq hv hBW hKW hNW hq2 hrowl hrow
    refine wpIn_block ?_
    refine wpIn_region_lift (S := fun _ => True) hfm (by rintro ⟨_, _, h⟩; exact h) (by rfl) trivial (fun _ => ?_)
    refine wpAnyH_take (i := 1) (oi := { dst := some 21, op := Op.move (Operand.tmp 4), type := 59, pos := "credit.go:116", after := #[], guard := none }) (v := ?_) rfl (by kernel_rfl) (by kernel_rfl) (by kernel_rfl) (fun _ _ _ h => h) (Or.inl ⟨by rfl, ?_⟩) (by trivial) ?_
    rotate_left
    · intro w9 hSw
      go_simp
      try with_reducible rfl
    try simp only [Act.put, List.setIfInBounds_toArray, List.set_cons_zero, List.set_cons_succ]
    refine wpAnyH_take (i := 2) (oi := { dst := some 22, op := Op.nilCheck (Operand.tmp 21), type := 0, pos := "credit.go:116", after := #[{ on := 1, ground := Ground.data }], guard := none }) (v := ?_) rfl (by kernel_rfl) (by kernel_rfl) (by kernel_rfl) (fun _ _ _ h => h) (Or.inl ⟨by rfl, ?_⟩) (by trivial) ?_
    rotate_left
    · intro w9 hSw
      go_simp
      try with_reducible rfl
    try simp only [Act.put, List.setIfInBounds_toArray, List.set_cons_zero, List.set_cons_succ]
    refine wpAnyH_take (i := 3) (oi := { dst := some 23, op := Op.fieldAddr 64 (Operand.tmp 22) 0, type := 0, pos := "credit.go:116", after := #[{ on := 2, ground := Ground.data }], guard := none }) (v := ?_) rfl (by kernel_rfl) (by kernel_rfl) (by kernel_rfl) (fun _ _ _ h => h) (Or.inl ⟨by rfl, ?_⟩) (by trivial) ?_
    rotate_left
    · intro w9 hSw
      go_simp
      try with_reducible rfl
    try simp only [Act.put, List.setIfInBounds_toArray, List.set_cons_zero, List.set_cons_succ]
    refine wpAnyH_ready (rs := [0, 4]) (by kernel_rfl) (by simp) ?_
    refine AllReadyH.cons (o := { dst := some 20, op := Op.load 30 (Operand.tmp 3), type := 30, pos := "credit.go:116", after := #[], guard := none }) rfl (fun K hK => ?_) ?_
    · go_simp
      refine hK _ _ trivial (fun _ => ?_)
      clear hK K
      try simp only [Act.put, List.setIfInBounds_toArray, List.set_cons_zero, List.set_cons_succ]
      refine wpAnyH_ready (rs := [4]) (by kernel_rfl) (by simp) ?_
      refine AllReadyH.cons (o := { dst := some 24, op := Op.load 9 (Operand.tmp 23), type := 9, pos := "credit.go:116", after := #[{ on := 3, ground := Ground.data }], guard := none }) rfl (fun K hK => ?_) AllReadyH.nil
      go_simp
      refine hK _ _ trivial (fun _ => ?_)
      clear hK K
      try simp only [Act.put, List.setIfInBounds_toArray, List.set_cons_zero, List.set_cons_succ]
      refine wpAnyH_ready (rs := [5]) (by kernel_rfl) (by simp) ?_
      refine AllReadyH.cons (o := { dst := some 25, op := Op.call { callee := Callee.value (Operand.func 24), args := #[Operand.tmp 24], argTypes := #[9] }, type := 9, pos := "credit.go:116", after := #[{ on := 4, ground := Ground.data }], guard := none }) rfl (fun K hK => ?_) AllReadyH.nil
      go_simp
      refine (HC.out _).mono ?_
      rintro e w9 ⟨rfl, hb9⟩
      obtain ⟨b9, b10⟩ := HBX.out w9 hb9
      obtain ⟨o9, m9⟩ := HAPP.out w9 hb9
      have hs9 := hb9.size
      refine hK _ _ trivial (fun _ => ?_)
      clear hK K
      try simp only [Act.put, List.setIfInBounds_toArray, List.set_cons_zero, List.set_cons_succ]
      refine wpAnyH_ready (rs := [6]) (by kernel_rfl) (by simp) ?_
      refine AllReadyH.cons (o := { dst := some 26, op := Op.buildSlice 30 1 #[(0, Operand.tmp 25)], type := 30, pos := "credit.go:116", after := #[{ on := 5, ground := Ground.data }], guard := none }) rfl (fun K hK => ?_) AllReadyH.nil
      go_simp
      refine hK _ _ trivial (fun _ => ?_)
      clear hK K
      try simp only [Act.put, List.setIfInBounds_toArray, List.set_cons_zero, List.set_cons_succ]
      refine wpAnyH_ready (rs := [7]) (by kernel_rfl) (by simp) ?_
      refine AllReadyH.cons (o := { dst := some 27, op := Op.call { callee := Callee.builtin Builtin.append, args := #[Operand.tmp 20, Operand.tmp 26], argTypes := #[30, 30] }, type := 30, pos := "credit.go:116", after := #[{ on := 0, ground := Ground.data }, { on := 6, ground := Ground.data }, { on := 5, ground := Ground.chain }], guard := none }) rfl (fun K hK => ?_) AllReadyH.nil
      rw [if_pos (by rfl)]
      refine wp_appendG strC _ (.tmp 20) (.tmp 26) 30 rfl _ 16 Try.underlying30 infoStr rfl rfl o9 _ [x.t] rfl m9 HSZA.out.1 HSZA.out.2 (HBASE.out w9 hb9) ?_
      intro v' w10 ho10 hg10
      obtain ⟨A2, c2, rfl, a10, f10, hfin⟩ := HLAST.out w9 w10 v' hb9 ho10 hg10
      have HFIN := Lib.hid hfin
      clear hfin ho10 hg10 o9 m9 b9 b10 hb9 hs9
      refine hK _ _ trivial (fun _ => ?_)
      clear hK K
      try simp only [Act.put, List.setIfInBounds_toArray, List.set_cons_zero, List.set_cons_succ]
      refine wpAnyH_ready (rs := [8]) (by kernel_rfl) (by simp) ?_
      refine AllReadyH.cons (o := { dst := none, op := Op.store 30 (Operand.tmp 3) (Operand.tmp 27), type := 0, pos := "credit.go:116", after := #[{ on := 7, ground := Ground.data }, { on := 7, ground := Ground.chain }, { on := 0, ground := Ground.phase }, { on := 1, ground := Ground.phase }, { on := 2, ground := Ground.phase }, { on := 3, ground := Ground.phase }, { on := 4, ground := Ground.phase }, { on := 5, ground := Ground.phase }, { on := 6, ground := Ground.phase }, { on := 7, ground := Ground.phase }], guard := none }) rfl (fun K hK => ?_) AllReadyH.nil
      go_simp
      refine hK _ _ trivial (fun _ => ?_)
      clear hK K
      try simp only [Act.put, List.setIfInBounds_toArray, List.set_cons_zero, List.set_cons_succ]
      refine wpAnyH_done (by kernel_rfl) ?_ _
      exact HFIN.out
    refine AllReadyH.cons (o := { dst := some 24, op := Op.load 9 (Operand.tmp 23), type := 9, pos := "credit.go:116", after := #[{ on := 3, ground := Ground.data }], guard := none }) rfl (fun K hK => ?_) AllReadyH.nil
    go_simp
    refine hK _ _ trivial (fun _ => ?_)
    clear hK K
    try simp only [Act.put, List.setIfInBounds_toArray, List.set_cons_zero, List.set_cons_succ]
    refine wpAnyH_ready (rs := [0, 5]) (by kernel_rfl) (by simp) ?_
    refine AllReadyH.cons (o := { dst := some 20, op := Op.load 30 (Operand.tmp 3), type := 30, pos := "credit.go:116", after := #[], guard := none }) rfl (fun K hK => ?_) ?_
    · go_simp
      refine hK _ _ trivial (fun _ => ?_)
      clear hK K
      try simp only [Act.put, List.setIfInBounds_toArray, List.set_cons_zero, List.set_cons_succ]
      refine wpAnyH_ready (rs := [5]) (by kernel_rfl) (by simp) ?_
      refine AllReadyH.cons (o := { dst := some 25, op := Op.call { callee := Callee.value (Operand.func 24), args := #[Operand.tmp 24], argTypes := #[9] }, type := 9, pos := "credit.go:116", after := #[{ on := 4, ground := Ground.data }], guard := none }) rfl (fun K hK => ?_) AllReadyH.nil
      go_simp
      refine (HC.out _).mono ?_
      rintro e w9 ⟨rfl, hb9⟩
      obtain ⟨b9, b10⟩ := HBX.out w9 hb9
      obtain ⟨o9, m9⟩ := HAPP.out w9 hb9
      have hs9 := hb9.size
      refine hK _ _ trivial (fun _ => ?_)
      clear hK K
      try simp only [Act.put, List.setIfInBounds_toArray, List.set_cons_zero, List.set_cons_succ]
      refine wpAnyH_ready (rs := [6]) (by kernel_rfl) (by simp) ?_
      refine AllReadyH.cons (o := { dst := some 26, op := Op.buildSlice 30 1 #[(0, Operand.tmp 25)], type := 30, pos := "credit.go:116", after := #[{ on := 5, ground := Ground.data }], guard := none }) rfl (fun K hK => ?_) AllReadyH.nil
      go_simp
      refine hK _ _ trivial (fun _ => ?_)
      clear hK K
      try simp only [Act.put, List.setIfInBounds_toArray, List.set_cons_zero, List.set_cons_succ]
      refine wpAnyH_ready (rs := [7]) (by kernel_rfl) (by simp) ?_
      refine AllReadyH.cons (o := { dst := some 27, op := Op.call { callee := Callee.builtin Builtin.append, args := #[Operand.tmp 20, Operand.tmp 26], argTypes := #[30, 30] }, type := 30, pos := "credit.go:116", after := #[{ on := 0, ground := Ground.data }, { on := 6, ground := Ground.data }, { on := 5, ground := Ground.chain }], guard := none }) rfl (fun K hK => ?_) AllReadyH.nil
      rw [if_pos (by rfl)]
      refine wp_appendG strC _ (.tmp 20) (.tmp 26) 30 rfl _ 16 Try.underlying30 infoStr rfl rfl o9 _ [x.t] rfl m9 HSZA.out.1 HSZA.out.2 (HBASE.out w9 hb9) ?_
      intro v' w10 ho10 hg10
      obtain ⟨A2, c2, rfl, a10, f10, hfin⟩ := HLAST.out w9 w10 v' hb9 ho10 hg10
      have HFIN := Lib.hid hfin
      clear hfin ho10 hg10 o9 m9 b9 b10 hb9 hs9
      refine hK _ _ trivial (fun _ => ?_)
      clear hK K
      try simp only [Act.put, List.setIfInBounds_toArray, List.set_cons_zero, List.set_cons_succ]
      refine wpAnyH_ready (rs := [8]) (by kernel_rfl) (by simp) ?_
      refine AllReadyH.cons (o := { dst := none, op := Op.store 30 (Operand.tmp 3) (Operand.tmp 27), type := 0, pos := "credit.go:116", after := #[{ on := 7, ground := Ground.data }, { on := 7, ground := Ground.chain }, { on := 0, ground := Ground.phase }, { on := 1, ground := Ground.phase }, { on := 2, ground := Ground.phase }, { on := 3, ground := Ground.phase }, { on := 4, ground := Ground.phase }, { on := 5, ground := Ground.phase }, { on := 6, ground := Ground.phase }, { on := 7, ground := Ground.phase }], guard := none }) rfl (fun K hK => ?_) AllReadyH.nil
      go_simp
      refine hK _ _ trivial (fun _ => ?_)
      clear hK K
      try simp only [Act.put, List.setIfInBounds_toArray, List.set_cons_zero, List.set_cons_succ]
      refine wpAnyH_done (by kernel_rfl) ?_ _
      exact HFIN.out
    refine AllReadyH.cons (o := { dst := some 25, op := Op.call { callee := Callee.value (Operand.func 24), args := #[Operand.tmp 24], argTypes := #[9] }, type := 9, pos := "credit.go:116", after := #[{ on := 4, ground := Ground.data }], guard := none }) rfl (fun K hK => ?_) AllReadyH.nil
    go_simp
    refine (HC.out _).mono ?_
    rintro e w9 ⟨rfl, hb9⟩
    obtain ⟨b9, b10⟩ := HBX.out w9 hb9
    obtain ⟨o9, m9⟩ := HAPP.out w9 hb9
    have hs9 := hb9.size
    refine hK _ _ trivial (fun _ => ?_)
    clear hK K
    try simp only [Act.put, List.setIfInBounds_toArray, List.set_cons_zero, List.set_cons_succ]
    refine wpAnyH_ready (rs := [0, 6]) (by kernel_rfl) (by simp) ?_
    refine AllReadyH.cons (o := { dst := some 20, op := Op.load 30 (Operand.tmp 3), type := 30, pos := "credit.go:116", after := #[], guard := none }) rfl (fun K hK => ?_) ?_
    · go_simp
      refine hK _ _ trivial (fun _ => ?_)
      clear hK K
      try simp only [Act.put, List.setIfInBounds_toArray, List.set_cons_zero, List.set_cons_succ]
      refine wpAnyH_ready (rs := [6]) (by kernel_rfl) (by simp) ?_
      refine AllReadyH.cons (o := { dst := some 26, op := Op.buildSlice 30 1 #[(0, Operand.tmp 25)], type := 30, pos := "credit.go:116", after := #[{ on := 5, ground := Ground.data }], guard := none }) rfl (fun K hK => ?_) AllReadyH.nil
      go_simp
      refine hK _ _ trivial (fun _ => ?_)
      clear hK K
      try simp only [Act.put, List.setIfInBounds_toArray, List.set_cons_zero, List.set_cons_succ]
      refine wpAnyH_ready (rs := [7]) (by kernel_rfl) (by simp) ?_
      refine AllReadyH.cons (o := { dst := some 27, op := Op.call { callee := Callee.builtin Builtin.append, args := #[Operand.tmp 20, Operand.tmp 26], argTypes := #[30, 30] }, type := 30, pos := "credit.go:116", after := #[{ on := 0, ground := Ground.data }, { on := 6, ground := Ground.data }, { on := 5, ground := Ground.chain }], guard := none }) rfl (fun K hK => ?_) AllReadyH.nil
      rw [if_pos (by rfl)]
      refine wp_appendG strC _ (.tmp 20) (.tmp 26) 30 rfl _ 16 Try.underlying30 infoStr rfl rfl o9 _ [x.t] rfl m9 HSZA.out.1 HSZA.out.2 (HBASE.out w9 hb9) ?_
      intro v' w10 ho10 hg10
      obtain ⟨A2, c2, rfl, a10, f10, hfin⟩ := HLAST.out w9 w10 v' hb9 ho10 hg10
      have HFIN := Lib.hid hfin
      clear hfin ho10 hg10 o9 m9 b9 b10 hb9 hs9
      refine hK _ _ trivial (fun _ => ?_)
      clear hK K
      try simp only [Act.put, List.setIfInBounds_toArray, List.set_cons_zero, List.set_cons_succ]
      refine wpAnyH_ready (rs := [8]) (by kernel_rfl) (by simp) ?_
      refine AllReadyH.cons (o := { dst := none, op := Op.store 30 (Operand.tmp 3) (Operand.tmp 27), type := 0, pos := "credit.go:116", after := #[{ on := 7, ground := Ground.data }, { on := 7, ground := Ground.chain }, { on := 0, ground := Ground.phase }, { on := 1, ground := Ground.phase }, { on := 2, ground := Ground.phase }, { on := 3, ground := Ground.phase }, { on := 4, ground := Ground.phase }, { on := 5, ground := Ground.phase }, { on := 6, ground := Ground.phase }, { on := 7, ground := Ground.phase }], guard := none }) rfl (fun K hK => ?_) AllReadyH.nil
      go_simp
      refine hK _ _ trivial (fun _ => ?_)
      clear hK K
      try simp only [Act.put, List.setIfInBounds_toArray, List.set_cons_zero, List.set_cons_succ]
      refine wpAnyH_done (by kernel_rfl) ?_ _
      exact HFIN.out
    refine AllReadyH.cons (o := { dst := some 26, op := Op.buildSlice 30 1 #[(0, Operand.tmp 25)], type := 30, pos := "credit.go:116", after := #[{ on := 5, ground := Ground.data }], guard := none }) rfl (fun K hK => ?_) AllReadyH.nil
    go_simp
    refine hK _ _ trivial (fun _ => ?_)
    clear hK K
    try simp only [Act.put, List.setIfInBounds_toArray, List.set_cons_zero, List.set_cons_succ]
    refine wpAnyH_ready (rs := [0]) (by kernel_rfl) (by simp) ?_
    refine AllReadyH.cons (o := { dst := some 20, op := Op.load 30 (Operand.tmp 3), type := 30, pos := "credit.go:116", after := #[], guard := none }) rfl (fun K hK => ?_) AllReadyH.nil
    go_simp
    refine hK _ _ trivial (fun _ => ?_)
    clear hK K
    try simp only [Act.put, List.setIfInBounds_toArray, List.set_cons_zero, List.set_cons_succ]
    refine wpAnyH_ready (rs := [7]) (by kernel_rfl) (by simp) ?_
    refine AllReadyH.cons (o := { dst := some 27, op := Op.call { callee := Callee.builtin Builtin.append, args := #[Operand.tmp 20, Operand.tmp 26], argTypes := #[30, 30] }, type := 30, pos := "credit.go:116", after := #[{ on := 0, ground := Ground.data }, { on := 6, ground := Ground.data }, { on := 5, ground := Ground.chain }], guard := none }) rfl (fun K hK => ?_) AllReadyH.nil
    rw [if_pos (by rfl)]
    refine wp_appendG strC _ (.tmp 20) (.tmp 26) 30 rfl _ 16 Try.underlying30 infoStr rfl rfl o9 _ [x.t] rfl m9 HSZA.out.1 HSZA.out.2 (HBASE.out w9 hb9) ?_
    intro v' w10 ho10 hg10
    obtain ⟨A2, c2, rfl, a10, f10, hfin⟩ := HLAST.out w9 w10 v' hb9 ho10 hg10
    have HFIN := Lib.hid hfin
    clear hfin ho10 hg10 o9 m9 b9 b10 hb9 hs9
    refine hK _ _ trivial (fun _ => ?_)
    clear hK K
    try simp only [Act.put, List.setIfInBounds_toArray, List.set_cons_zero, List.set_cons_succ]
    refine wpAnyH_ready (rs := [8]) (by kernel_rfl) (by simp) ?_
    refine AllReadyH.cons (o := { dst := none, op := Op.store 30 (Operand.tmp 3) (Operand.tmp 27), type := 0, pos := "credit.go:116", after := #[{ on := 7, ground := Ground.data }, { on := 7, ground := Ground.chain }, { on := 0, ground := Ground.phase }, { on := 1, ground := Ground.phase }, { on := 2, ground := Ground.phase }, { on := 3, ground := Ground.phase }, { on := 4, ground := Ground.phase }, { on := 5, ground := Ground.phase }, { on := 6, ground := Ground.phase }, { on := 7, ground := Ground.phase }], guard := none }) rfl (fun K hK => ?_) AllReadyH.nil
    go_simp
    refine hK _ _ trivial (fun _ => ?_)
    clear hK K
    try simp only [Act.put, List.setIfInBounds_toArray, List.set_cons_zero, List.set_cons_succ]
    refine wpAnyH_done (by kernel_rfl) ?_ _
    exact HFIN.out
  case done =>
    rintro D xs W hD hSx ⟨v, hv, hrow, hvn, hBW, hNW, hKW⟩ hDef
    have e4 : W.cell? ⟨n, 0, none⟩ = some v := by rw [cell_of_row _ _ _ _ _ (0, 0) hv]; rfl
    have hxs : xs.map (fun x => x.1.t) = s.l.map (·.1) := by
      have e1 : xs.map (·.1) = X := by rw [hSx]; exact (attX_val hrot.mem).trans (by simp)
      have e2 : xs.map (fun x => x.1.t) = (xs.map (·.1)).map (·.t) := by rw [List.map_map]; rfl
      rw [e2, e1, h5.row, List.map_map]
      rfl
    rw [hxs] at hrow
    have HFIN : Hid (OwnG strC 9 (W.putObj D (.deferred none)) w.heap.size v (s.l.map (·.1)) ∧ Below w.heap.size w (W.putObj D (.deferred none))) := Lib.hid (by
      rw [← HN0.out]
      refine ⟨hrow.keep fun g hg => World.putObj_heap_other (fun e => ?_), hBW.grown (grownBy_putObj' _ D _) (by omega) (fun k e => by cases e; omega)⟩
      subst e
      rcases hrow.2 with ⟨e2, _⟩ | ⟨g', cap, cur, e2, _, hgb, _⟩
      · rw [e2] at hg; cases hg
      · rw [e2] at hg
        cases hg
        rw [hgb] at hDef
        cases hDef)
    have HT := Lib.hid (run_takeDeferred (P := Try.prog) hDef)
    clear hrow hv hBW hKW hNW hDef hSx hxs hN hsz5 g5 q5 k5 hb5
    go_wp2_with fail
    refine ⟨by simp, .inl ⟨_, _, rfl, HT.out, ?_⟩⟩
    refine ⟨v, ?_, v, rfl, HFIN.out.1, HFIN.out.2⟩
    simp [results, Try.f19, go_sem]
  case stop =>
    rintro D cc pre W hD hpre hix hDef
    exact hix.elim
end

end Go.Proofs.Ytknfiiacalfelaa
