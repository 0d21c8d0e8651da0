/-
  The program's Remove.
  Conditions: none but sizes.
-/
import Derived.Test.YtknfiiacalfelaaCrD
namespace Go.Proofs.Ytknfiiacalfelaa
open Go.RowKit Go.Shelf
set_option linter.unusedVariables false
set_option linter.unusedSimpArgs false
set_option maxRecDepth 100000

section
variable {w w' w1 w2 : World} {B qb rb mb sv sv' p q : Nat} {A D X : List ST} {x : ST} {F : Nat → Prop} {s : CP}
theorem rw_heap {k : Nat} (h1 : k ≠ p) (h2 : k ≠ q) : (removedW w p q).heap[k]? = w.heap[k]? := by
  unfold removedW
  rw [drew_heapL, heap_setO _ h2, heap_setO _ h1]
theorem rw_seat {b : Nat} {t : Tg} {c : Nat} (h : SeatC w b t c) : SeatC (removedW w p q) b t c := ((h.anyset p 3 _ (.inr rfl)).anyset q 2 _ (.inl rfl)).drw
theorem rw_ring (h : RingC w rb sv) : RingC (removedW w p q) rb sv := ((h.anyset p 3 _ (.inr rfl)).anyset q 2 _ (.inl rfl)).drw
theorem rw_c3 {a : Nat} (h : a ≠ p) : (removedW w p q).cell? ⟨a, 3, none⟩ = w.cell? ⟨a, 3, none⟩ := by
  unfold removedW
  rw [drew_cellL, cell_other23 a (by decide), cell_setB _ h]
theorem rw_c2 {a : Nat} (h : a ≠ q) : (removedW w p q).cell? ⟨a, 2, none⟩ = w.cell? ⟨a, 2, none⟩ := by
  unfold removedW
  rw [drew_cellL, cell_setB _ h, cell_other23 a (by decide)]
theorem rw_k3 {u : Value} (h : w.cell? ⟨p, 3, none⟩ = some u) : (removedW w p q).cell? ⟨p, 3, none⟩ = some (nodeV q) := by
  unfold removedW
  rw [drew_cellL, cell_other23 p (by decide)]
  exact cell_setS _ h
theorem rw_k2 {u : Value} (h : w.cell? ⟨q, 2, none⟩ = some u) : (removedW w p q).cell? ⟨q, 2, none⟩ = some (nodeV p) := by
  unfold removedW
  rw [drew_cellL]
  refine cell_setS _ (u := u) ?_
  rw [cell_other23 q (by decide)]
  exact h
/-- A seat's neighbours. -/
theorem CI.near (h : CI w B qb rb mb sv (A ++ x :: D) s) : ∃ pre p q post, rb :: blS A = pre ++ [p] ∧ blS D ++ [rb] = q :: post ∧ Chn w (pre ++ [p]) ∧ lkC w p x.b ∧ lkC w x.b q ∧ Chn w (q :: post) := by
  obtain ⟨pre, p, e1⟩ : ∃ pre p, rb :: blS A = pre ++ [p] := ⟨(rb :: blS A).dropLast, (rb :: blS A).getLast (by simp), (List.dropLast_concat_getLast (by simp)).symm⟩
  obtain ⟨q, post, e2⟩ : ∃ q post, blS D ++ [rb] = q :: post := by
    cases hD : blS D ++ [rb] with
    | nil => simp at hD
    | cons q post => exact ⟨q, post, rfl⟩
  refine ⟨pre, p, q, post, e1, e2, ?_⟩
  have hl := h.link
  have e3 : rb :: (blS (A ++ x :: D) ++ [rb]) = pre ++ p :: x.b :: q :: post := by
    have : blS (A ++ x :: D) = blS A ++ x.b :: blS D := by simp [blS]
    rw [this, show rb :: (blS A ++ x.b :: blS D ++ [rb]) = (rb :: blS A) ++ x.b :: (blS D ++ [rb]) by simp, e1, e2]
    simp
  rw [e3, Chn.append] at hl
  exact ⟨hl.1, hl.2.1, hl.2.2.1, hl.2.2.2⟩
theorem CI.rmFin {pre post : List Nat} (h : CI w B qb rb mb sv (A ++ x :: D) s) (ho : s.ok) (hk : ∀ k, k < w.heap.size → k ≠ mb → w1.heap[k]? = w.heap[k]?) (hm1 : MapS strFam w1 mb (LofS (A ++ D)))
    (hk2 : ∀ k, k ≠ rb → w2.heap[k]? = w1.heap[k]?) (hc2 : ∀ a i, i = 2 ∨ i = 3 → w2.cell? ⟨a, i, none⟩ = w1.cell? ⟨a, i, none⟩) (hr2 : RingC w2 rb sv')
    (e1 : rb :: blS A = pre ++ [p]) (e2 : blS D ++ [rb] = q :: post) (l1 : Chn w (pre ++ [p])) (l2 : lkC w p x.b) (l3 : lkC w x.b q) (l4 : Chn w (q :: post))
    (hsv : ((s.rm x.t).last = [] ∧ sv' = rb) ∨ ∃ y ∈ A ++ D, y.t = (s.rm x.t).last ∧ sv' = y.b) :
    CI (removedW w2 p q) B qb rb mb sv' (A ++ D) (s.rm x.t) := by
  have hsub : ∀ y ∈ A ++ D, y ∈ A ++ x :: D := fun y hy => by simp at hy ⊢; rcases hy with h | h <;> simp [h]
  have ebl : blS (A ++ x :: D) = blS A ++ x.b :: blS D := by simp [blS]
  have hnd := h.nodR
  rw [ebl] at hnd
  have hpm : p ∈ rb :: blS A := by rw [e1]; simp
  have hqm : q ∈ blS D ++ [rb] := by rw [e2]; simp
  have hpn : p ∈ rb :: blS (A ++ x :: D) := by
    rw [ebl]; simp at hpm ⊢; rcases hpm with h | h <;> simp [h]
  have hqn : q ∈ rb :: blS (A ++ x :: D) := by
    rw [ebl]; simp at hqm ⊢; rcases hqm with h | h <;> simp [h]
  have np := h.node hpn
  have nq := h.node hqn
  have nr := h.node (a := rb) (by simp)
  have cw : ∀ a i, a ∈ rb :: blS (A ++ x :: D) → i = 2 ∨ i = 3 → w2.cell? ⟨a, i, none⟩ = w.cell? ⟨a, i, none⟩ := fun a i ha hi => (hc2 a i hi).trans (cell_keepH (hk a (h.node ha).lt (h.node ha).nm))
  have hbx := h.box.lt
  have hbm : qb ≠ mb := h.map.neCells h.box
  have hb2 : BoxR w2 qb rb mb := (hk2 qb nr.nq.symm).trans ((hk qb hbx hbm).trans h.box)
  have hm2 : MapS strFam w2 mb (LofS (A ++ D)) := hm1.keep (hk2 mb nr.nm.symm)
  have hs2 : ∀ y ∈ A ++ D, SeatC w2 y.b y.t y.c := fun y hy => by
    have hy' := h.seat y (hsub y hy)
    exact hy'.keep ((hk2 _ (hy'.neRing h.ring)).trans (hk _ hy'.lt (hy'.neMap h.map)))
  have hpre : ∀ a ∈ pre ++ [p], a ∈ rb :: blS (A ++ x :: D) := fun a ha => by
    rw [← e1] at ha
    rw [ebl]; simp at ha ⊢; rcases ha with h | h <;> simp [h]
  have hpost : ∀ a ∈ q :: post, a ∈ rb :: blS (A ++ x :: D) := fun a ha => by
    rw [← e2] at ha
    rw [ebl]; simp at ha ⊢; rcases ha with h | h <;> simp [h]
  rw [show rb :: (blS A ++ x.b :: blS D) = (rb :: blS A) ++ x.b :: blS D by simp] at hnd
  have hnd2 := List.nodup_append.1 hnd
  obtain ⟨nA, nxD, hAD⟩ := hnd2
  have nD := (List.nodup_cons.1 nxD).2
  refine ⟨(rw_heap np.nq.symm nq.nq.symm).trans hb2, rw_ring hr2, fun y hy => rw_seat (hs2 y hy), ?_, ?_, hsv, hm2.keep (rw_heap np.nm.symm nq.nm.symm), ?_, h.hq, h.hr, h.hm, fun y hy => h.hx y (hsub y hy)⟩
  · have e3 : rb :: (blS (A ++ D) ++ [rb]) = pre ++ p :: q :: post := by
      have : blS (A ++ D) = blS A ++ blS D := by simp [blS]
      rw [this, show rb :: (blS A ++ blS D ++ [rb]) = (rb :: blS A) ++ (blS D ++ [rb]) by simp, e1, e2]
      simp
    rw [e3, Chn.append]
    have hqt : ∀ a ∈ (pre ++ [p]).tail, a ≠ q := fun a ha e => by
      subst e
      rw [← e1] at ha
      simp only [List.tail_cons] at ha
      simp at hqm
      rcases hqm with h1 | h1
      · exact hAD a (by simp [ha]) a (by simp [h1]) rfl
      · subst h1
        exact (List.nodup_cons.1 nA).1 ha
    have hpd : ∀ a ∈ (pre ++ [p]).dropLast, a ≠ p := fun a ha e => by
      subst e
      rw [List.dropLast_concat] at ha
      rw [e1, List.nodup_append] at nA
      exact nA.2.2 a ha a (by simp) rfl
    have hpd2 : ∀ a ∈ (q :: post).dropLast, a ≠ p := fun a ha e => by
      subst e
      rw [← e2, List.dropLast_concat] at ha
      exact hAD a hpm a (by simp [ha]) rfl
    have hqt2 : ∀ a ∈ (q :: post).tail, a ≠ q := fun a ha e => by
      subst e
      have hn : (blS D ++ [rb]).Nodup := by
        rw [List.nodup_append]
        refine ⟨nD, by simp, fun a ha b hb e => ?_⟩
        simp at hb
        subst hb; subst e
        exact hAD a (by simp) a (by simp [ha]) rfl
      rw [e2] at hn
      exact (List.nodup_cons.1 hn).1 ha
    refine ⟨l1.keep (fun a ha => (rw_c3 (hpd a ha)).trans (cw a 3 (hpre a (List.dropLast_subset _ ha)) (.inr rfl))) (fun a ha => (rw_c2 (hqt a ha)).trans (cw a 2 (hpre a (List.mem_of_mem_tail ha)) (.inl rfl))), ⟨rw_k3 ((cw p 3 hpn (.inr rfl)).trans l2.1), rw_k2 ((cw q 2 hqn (.inl rfl)).trans l3.2)⟩, l4.keep (fun a ha => (rw_c3 (hpd2 a ha)).trans (cw a 3 (hpost a (List.dropLast_subset _ ha)) (.inr rfl))) (fun a ha => (rw_c2 (hqt2 a ha)).trans (cw a 2 (hpost a (List.mem_of_mem_tail ha)) (.inl rfl)))⟩
  · show delA x.t s.l = _
    have hn := ho.nod
    rw [h.row, List.map_append, List.map_cons] at hn
    rw [h.row, List.map_append, List.map_cons, show x.t = (tcS x).1 from rfl, delA_midC hn]
    simp
  · have : blS (A ++ D) = blS A ++ blS D := by simp [blS]
    rw [this, List.nodup_append]
    exact ⟨(List.nodup_cons.1 nA).2, nD, fun a ha b hb e => hAD a (by simp [ha]) b (by simp [hb]) e⟩
theorem CI.tagsX (h : CI w B qb rb mb sv X s) (ho : s.ok) : (X.map (·.t)).Nodup := by
  have hn := ho.nod
  rw [h.row, List.map_map] at hn
  exact hn
theorem nodup_inj {α β : Type} {f : α → β} {l : List α} (hn : (l.map f).Nodup) {a b : α} (ha : a ∈ l) (hb : b ∈ l) (e : f a = f b) : a = b := by
  obtain ⟨i, hi, rfl⟩ := List.getElem_of_mem ha
  obtain ⟨j, hj, rfl⟩ := List.getElem_of_mem hb
  have := (List.getElem_inj (i := i) (j := j) (h₀ := by simpa using hi) (h₁ := by simpa using hj) hn).1 (by simpa using e)
  subst this
  rfl
/-- Who is the last served one behind a removal. -/
theorem CI.rmServed {pre : List Nat} (h : CI w B qb rb mb x.b (A ++ x :: D) s) (ho : s.ok) (e1 : rb :: blS A = pre ++ [p]) : ((s.rm x.t).last = [] ∧ p = rb) ∨ ∃ y ∈ A ++ D, y.t = (s.rm x.t).last ∧ p = y.b := by
  have hx : x ∈ A ++ x :: D := by simp
  have hl : s.last = x.t := by
    rcases h.srv with ⟨_, e⟩ | ⟨y, hy, e, e2⟩
    · exact absurd e ((h.seat x hx).neRing h.ring)
    · rw [← e, nodup_inj h.nod hx hy e2]
  have hn := ho.nod
  rw [h.row, List.map_append, List.map_cons] at hn
  have e3 : (s.rm x.t).last = (((A.map tcS).map (·.1)).getLast?).getD [] := by
    show (if s.last = x.t then prevA x.t [] s.l else s.last) = _
    rw [if_pos hl, h.row, List.map_append, List.map_cons]
    exact prevA_mid (x := tcS x) (mid_nodup hn).1 []
  rw [e3]
  rcases List.eq_nil_or_concat A with rfl | ⟨A', y, rfl⟩
  · left
    have : [rb] = pre ++ [p] := e1
    have := List.append_inj' (show [] ++ [rb] = pre ++ [p] from this) rfl
    simp at this
    exact ⟨rfl, this.2.symm⟩
  · right
    refine ⟨y, by simp, by simp [tcS], ?_⟩
    have e4 : (rb :: blS A') ++ [y.b] = pre ++ [p] := by rw [← e1]; simp [blS]
    have := (List.append_inj' e4 rfl).2
    simp at this
    exact this.symm
theorem CI.rmOther (h : CI w B qb rb mb sv (A ++ x :: D) s) (ho : s.ok) (hne : sv ≠ x.b) : ((s.rm x.t).last = [] ∧ sv = rb) ∨ ∃ y ∈ A ++ D, y.t = (s.rm x.t).last ∧ sv = y.b := by
  have hx : x ∈ A ++ x :: D := by simp
  have hl : s.last ≠ x.t := fun e => by
    rcases h.srv with ⟨e2, _⟩ | ⟨y, hy, e2, e3⟩
    · have := (ho.tags (x.t, x.c) (by rw [h.row]; exact List.mem_map.2 ⟨x, hx, rfl⟩)).1
      exact this (e.symm.trans e2)
    · exact hne (by rw [e3, nodup_inj (h.tagsX ho) hy hx (e2.trans e)])
  have e3 : (s.rm x.t).last = s.last := if_neg hl
  rw [e3]
  rcases h.srv with h1 | ⟨y, hy, e2, e4⟩
  · exact .inl h1
  · refine .inr ⟨y, ?_, e2, e4⟩
    simp only [List.mem_append, List.mem_cons] at hy ⊢
    rcases hy with hy | rfl | hy
    · exact .inl hy
    · exact absurd e4 hne
    · exact .inr hy
theorem FC_rm (k : Nat) (h : FC qb rb mb (A ++ D) k) : FC qb rb mb (A ++ x :: D) k := by
  rcases h with h | h | h | ⟨y, hy, rfl⟩
  · exact .inl h
  · exact .inr (.inl h)
  · exact .inr (.inr (.inl h))
  · exact .inr (.inr (.inr ⟨y, by simp at hy ⊢; rcases hy with h | h <;> simp [h], rfl⟩))
theorem FC_node {a : Nat} (h : a ∈ rb :: blS X) : FC qb rb mb X a := by
  rcases List.mem_cons.1 h with e | e
  · exact .inr (.inl e)
  · obtain ⟨y, hy, e2⟩ := List.mem_map.1 e
    exact .inr (.inr (.inr ⟨y, hy, e2.symm⟩))
theorem MovedQ.removedW (h : MovedQ F w w1) (hp : F p) (hq : F q) : MovedQ F w (removedW w1 p q) := ((h.setCell (fun _ => hp) _ _).setCell (fun _ => hq) _ _).drew

set_option maxHeartbeats 2000000 in
theorem remove_any (h : CW w B qb s F) (hB : B ≤ w.heap.size) (t : Tg) (ht : t.length ≤ 140737488355328) : Calls Try.prog 11 #[.pointer (some ⟨qb, 0, none⟩), .string (str8 t)] w (AnsC w B qb F (s.remove t)) := by
  unfold AnsC
  have H0 := Lib.hid (LeftC.same h)
  obtain ⟨ho, rb, mb, sv, X, h1, hF⟩ := (show CW w B qb s F from h)
  cases hgt : getA t s.l with
  | none =>
    have HF := Lib.hid (find_none h1 t ht hgt)
    have e : s.remove t = (7, s) := by unfold CP.remove; rw [hgt]; rfl
    rw [e]
    clear h1 hgt e ho h hF
    go_enter Try.func11, Try.ntmps11
    go_wp2_with (go_at_call 26; refine HF.out.mono ?_; rintro e w1 ⟨rfl, rfl⟩)
    go_ret
    exact ⟨rfl, H0.out⟩
  | some c =>
    obtain ⟨A, x, D, rfl, rfl, rfl, hg2⟩ := h1.split ho hgt
    have hx : x ∈ A ++ x :: D := by simp
    have hS := h1.seat x hx
    have HF := Lib.hid ((find_some h1 x.t ht x.b hg2).mono fun e w' hx => (show e = .returned (.tuple #[nodeV x.b, .int .i64 0]) ∧ w = w' from ⟨hx.1, hx.2.symm⟩))
    have c1 := h1.box.c1
    have hok := ho.rm (t := x.t) (by rw [hgt]; rfl)
    have e : s.remove x.t = (0, s.rm x.t) := by unfold CP.remove; rw [hgt]; rfl
    rw [e]
    obtain ⟨w1, hdel, hm1, hg1, hz1⟩ := h1.map.drop (T := 53) Try.underlying53 (q := x.t) ht 0
    replace hdel : (Builtin.delete_ #[53, 9] 0 #[.map (some mb), .string (str8 x.t)]).run Try.prog w = .ok (.tuple #[]) w1 := hdel
    have hdl : delA x.t (LofS (A ++ x :: D)) = LofS (A ++ D) := by
      have hn := h1.map.2.2
      have e5 : LofS (A ++ x :: D) = LofS A ++ (x.t, nodeV x.b) :: LofS D := by simp [LofS]
      have e6 : LofS (A ++ D) = LofS A ++ LofS D := by simp [LofS]
      rw [e5] at hn
      rw [e5, e6]
      have n1 : ∀ y ∈ LofS A, y.1 ≠ x.t := fun y hy e => by
        rw [List.map_append, List.nodup_append] at hn
        exact hn.2.2 y.1 (List.mem_map.2 ⟨y, hy, rfl⟩) x.t (by simp) e
      have n2 : ∀ y ∈ LofS D, y.1 ≠ x.t := fun y hy e => by
        rw [List.map_append, List.nodup_append, List.map_cons, List.nodup_cons] at hn
        exact hn.2.1.1 (by rw [← e]; exact List.mem_map.2 ⟨y, hy, rfl⟩)
      have f1 := delA_none n1
      have f2 := delA_none n2
      unfold delA at f1 f2 ⊢
      rw [List.filter_append, List.filter_cons, if_neg (by simp), f1, f2]
    rw [hdl] at hm1
    have hk1 : ∀ k, k < w.heap.size → k ≠ mb → w1.heap[k]? = w.heap[k]? := fun k hk hne => hg1.block k hk (fun e => hne (by simpa using e))
    obtain ⟨pre, p, q, post, e1, e2, l1, l2, l3, l4⟩ := h1.near
    have hpn : p ∈ rb :: blS (A ++ x :: D) := by
      have : p ∈ rb :: blS A := by rw [e1]; simp
      simp [blS] at this ⊢; rcases this with h | h <;> simp [h]
    have hqn : q ∈ rb :: blS (A ++ x :: D) := by
      have : q ∈ blS D ++ [rb] := by rw [e2]; simp
      simp [blS] at this ⊢; rcases this with h | h <;> simp [h]
    have np := h1.node hpn
    have nq := h1.node hqn
    have nr := h1.node (a := rb) (by simp)
    have nx := h1.node (a := x.b) (by simp [blS])
    have r1 : RingC w1 rb sv := h1.ring.keep (hk1 _ nr.lt nr.nm)
    have b1 : BoxR w1 qb rb mb := (hk1 _ h1.box.lt (h1.map.neCells h1.box)).trans h1.box
    have hp1 := hk1 p np.lt np.nm
    have hq1 := hk1 q nq.lt nq.nm
    have hx1 := hk1 x.b nx.lt nx.nm
    have fp : w1.frozen? ⟨p, 3, none⟩ = false := by rw [World.frozen?_of_block hp1]; exact np.fr 3
    have fq : w1.frozen? ⟨q, 2, none⟩ = false := by rw [World.frozen?_of_block hq1]; exact nq.fr 2
    have cp := (cell_keepH (i := 3) hp1).trans l2.1
    have cq := (cell_keepH (i := 2) hq1).trans l3.2
    have cx2 := (cell_keepH (i := 2) hx1).trans l2.2
    have cx3 := (cell_keepH (i := 3) hx1).trans l3.1
    have hmv : MovedQ (FC qb rb mb (A ++ x :: D)) w w1 := (MovedQ.refl _ w).grown hg1 (fun k hk _ => .inr (.inr (.inl (by simpa using hk.symm))))
    have hfoot : ∀ k, FC qb rb mb (A ++ D) k → F k ∨ w.heap.size ≤ k := fun k hk => .inl (by rw [hF]; exact FC_rm k hk)
    have HREM : ∃ W, (Calls Try.prog 27 #[.pointer (some ⟨rb, 0, none⟩), .pointer (some ⟨x.b, 0, none⟩)] w1 fun e w' => e = .returned (.tuple #[]) ∧ w' = W) ∧ LeftC w B qb F (s.rm x.t) W := by
      by_cases hsv : sv = x.b
      · subst hsv
        refine ⟨_, rremove_served r1 cx2 cx3 ((h1.seat x hx).neRing h1.ring) fp fq cp cq, ?_⟩
        refine ⟨_, ⟨hok, rb, mb, p, A ++ D, h1.rmFin (w2 := w1.setCell ⟨rb, 4, none⟩ (nodeV p)) ho hk1 hm1 (fun k hk => heap_setO _ hk) (fun a i hi => cell_other23 a (by rcases hi with rfl | rfl <;> decide)) (r1.set4 p) e1 e2 l1 l2 l3 l4 (h1.rmServed ho e1), rfl⟩, hfoot, ?_⟩
        rw [hF]
        exact (hmv.setCell (fun _ => .inr (.inl rfl)) _ _).removedW (FC_node hpn) (FC_node hqn)
      · refine ⟨_, rremove_other r1 hsv (by
          rcases h1.srv with ⟨_, e⟩ | ⟨y, hy, _, e⟩
          · rw [e]; exact r1.node
          · rw [e]; exact ((h1.seat y hy).keep (hk1 _ (h1.seat y hy).lt ((h1.seat y hy).neMap h1.map))).node) (hS.keep hx1).node cx2 cx3 fp fq cp cq, ?_⟩
        refine ⟨_, ⟨hok, rb, mb, sv, A ++ D, h1.rmFin (w2 := w1) ho hk1 hm1 (fun k hk => rfl) (fun a i hi => rfl) r1 e1 e2 l1 l2 l3 l4 (h1.rmOther ho hsv), rfl⟩, hfoot, ?_⟩
        rw [hF]
        exact hmv.removedW (FC_node hpn) (FC_node hqn)
    obtain ⟨W, hcall, hleft⟩ := HREM
    have HC := Lib.hid hcall
    have HL := Lib.hid hleft
    have d0 : w1.cell? ⟨qb, 0, none⟩ = some (nodeV rb) := b1.c0
    clear hcall hleft hfoot hmv cx2 cx3 cp cq fp fq hx1 hq1 hp1 b1 r1 nx nr nq np hqn hpn l1 l2 l3 l4 e1 e2 hk1 hm1 hg1 hz1 hdl e hok hg2 hgt hS hx h1 h hF ho
    generalize x.t = t at *
    generalize x.b = b at *
    unfold nodeV at *
    go_enter Try.func11, Try.ntmps11
    go_wp2_with (first
      | (go_at_call 26; refine HF.out.mono ?_; rintro e w1 ⟨rfl, rfl⟩)
      | (go_at_call 27; refine HC.out.mono ?_; rintro e w1 ⟨rfl, rfl⟩))
    go_ret
    exact ⟨rfl, HL.out⟩
end

end Go.Proofs.Ytknfiiacalfelaa
