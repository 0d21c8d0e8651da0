/-
  The program's Add.
  Conditions: none but sizes.
-/
import Derived.Test.YtknfiiacalfelaaCrC
import Derived.Test.YtknfiiacalfelaaGaJ
namespace Go.Proofs.Ytknfiiacalfelaa
open Go.RowKit Go.Shelf
set_option linter.unusedVariables false
set_option linter.unusedSimpArgs false
set_option maxRecDepth 100000

section
variable {w w' w2 w3 : World} {B qb rb mb sv : Nat} {X : List ST} {F : Nat → Prop} {s : CP}
/-- What holds of every node. -/
structure NodeOk (w : World) (qb mb a : Nat) : Prop where
  fr : ∀ j, w.frozen? ⟨a, j, none⟩ = false
  node : IsNode w a
  nq : a ≠ qb
  nm : a ≠ mb
  lt : a < w.heap.size
theorem CI.node (h : CI w B qb rb mb sv X s) {a : Nat} (ha : a ∈ rb :: blS X) : NodeOk w qb mb a := by
  rcases List.mem_cons.1 ha with rfl | ha
  · exact ⟨h.ring.fr, h.ring.node, h.ring.neBox h.box, h.ring.neMap h.map, h.ring.lt⟩
  · obtain ⟨x, hx, rfl⟩ := List.mem_map.1 ha
    have hs := h.seat x hx
    exact ⟨hs.fr, hs.node, hs.neBox h.box, hs.neMap h.map, hs.lt⟩
theorem drew_heapL (w : World) : w.drew.heap = w.heap := rfl
theorem drew_cellL (w : World) (a : Addr) : w.drew.cell? a = w.cell? a := rfl
theorem SeatC.drw {b : Nat} {t : Tg} {c : Nat} (h : SeatC w b t c) : SeatC w.drew b t c := h.keep (by rw [drew_heapL])
theorem RingC.drw (h : RingC w rb sv) : RingC w.drew rb sv := h.keep (by rw [drew_heapL])
theorem aw_heap {sb p k : Nat} (h1 : k ≠ sb) (h2 : k ≠ p) (h3 : k ≠ rb) : (addedW w rb sb p).heap[k]? = w.heap[k]? := by
  unfold addedW
  rw [drew_heapL, heap_setO _ h3, heap_setO _ h2, drew_heapL, heap_setO _ h1, heap_setO _ h1]
theorem aw_seat {sb p b : Nat} {t : Tg} {c : Nat} (h : SeatC w b t c) : SeatC (addedW w rb sb p) b t c :=
  ((((h.anyset sb 2 _ (.inl rfl)).anyset sb 3 _ (.inr rfl)).drw.anyset p 3 _ (.inr rfl)).anyset rb 2 _ (.inl rfl)).drw
theorem aw_ring {sb p : Nat} (h : RingC w rb sv) : RingC (addedW w rb sb p) rb sv :=
  ((((h.anyset sb 2 _ (.inl rfl)).anyset sb 3 _ (.inr rfl)).drw.anyset p 3 _ (.inr rfl)).anyset rb 2 _ (.inl rfl)).drw
theorem aw_c3 {sb p a : Nat} (h1 : a ≠ sb) (h2 : a ≠ p) : (addedW w rb sb p).cell? ⟨a, 3, none⟩ = w.cell? ⟨a, 3, none⟩ := by
  unfold addedW
  rw [drew_cellL, cell_other23 a (by decide), cell_setB _ h2, drew_cellL, cell_setB _ h1, cell_setB _ h1]
theorem aw_c2 {sb p a : Nat} (h1 : a ≠ sb) (h2 : a ≠ rb) : (addedW w rb sb p).cell? ⟨a, 2, none⟩ = w.cell? ⟨a, 2, none⟩ := by
  unfold addedW
  rw [drew_cellL, cell_setB _ h2, cell_other23 a (by decide), drew_cellL, cell_setB _ h1, cell_setB _ h1]
theorem aw_k2 {sb p : Nat} {u : Value} (n1 : sb ≠ rb) (s2 : w.cell? ⟨sb, 2, none⟩ = some u) : (addedW w rb sb p).cell? ⟨sb, 2, none⟩ = some (nodeV p) := by
  unfold addedW
  rw [drew_cellL, cell_setB _ n1, cell_other23 sb (by decide), drew_cellL, cell_other23 sb (by decide)]
  exact cell_setS _ s2
theorem aw_k3 {sb p : Nat} {u : Value} (n4 : sb ≠ p) (s3 : w.cell? ⟨sb, 3, none⟩ = some u) : (addedW w rb sb p).cell? ⟨sb, 3, none⟩ = some (nodeV rb) := by
  unfold addedW
  rw [drew_cellL, cell_other23 sb (by decide), cell_setB _ n4, drew_cellL]
  exact cell_setS _ ((cell_other23 sb (by decide)).trans s3)
theorem aw_k4 {sb p : Nat} {u : Value} (n4 : sb ≠ p) (s3 : w.cell? ⟨p, 3, none⟩ = some u) : (addedW w rb sb p).cell? ⟨p, 3, none⟩ = some (nodeV sb) := by
  unfold addedW
  rw [drew_cellL, cell_other23 p (by decide)]
  refine cell_setS _ (u := u) ?_
  rw [drew_cellL, cell_setB _ n4.symm, cell_setB _ n4.symm]
  exact s3
theorem aw_k5 {sb p : Nat} {u : Value} (n1 : sb ≠ rb) (s2 : w.cell? ⟨rb, 2, none⟩ = some u) : (addedW w rb sb p).cell? ⟨rb, 2, none⟩ = some (nodeV sb) := by
  unfold addedW
  rw [drew_cellL]
  refine cell_setS _ (u := u) ?_
  rw [cell_other23 rb (by decide), drew_cellL, cell_setB _ n1.symm, cell_setB _ n1.symm]
  exact s2
theorem CI.addFin {t : Tg} {sb p : Nat} {pre : List Nat} (h : CI w2 B qb rb mb sv X s) (hk : ∀ k, k < w2.heap.size → k ≠ mb → w3.heap[k]? = w2.heap[k]?) (hm3 : MapS strFam w3 mb (LofS X ++ [(t, nodeV sb)])) (hs3 : SeatC w3 sb t 0) (hnew : sb ∉ blS X) (hB : B ≤ sb)
    (hp : rb :: blS X = pre ++ [p]) : CI (addedW w3 rb sb p) B qb rb mb sv (X ++ [⟨t, 0, sb⟩]) ⟨s.l ++ [(t, 0)], s.last⟩ := by
  have hpm : p ∈ rb :: blS X := by rw [hp]; simp
  have np := h.node hpm
  have nr := h.node (a := rb) (by simp)
  have hnd := h.nodR
  have r3 : RingC w3 rb sv := h.ring.keep (hk _ nr.lt nr.nm)
  have b3 : BoxR w3 qb rb mb := (hk _ h.box.lt (h.map.neCells h.box)).trans h.box
  have n1 : sb ≠ rb := hs3.neRing r3
  have n2 : sb ≠ qb := hs3.neBox b3
  have n3 : sb ≠ mb := hs3.neMap hm3
  have n4 : sb ≠ p := by
    rintro rfl
    rcases List.mem_cons.1 hpm with e | e
    · exact n1 e
    · exact hnew e
  have hW : ∀ k, k ≠ sb → k ≠ p → k ≠ rb → (addedW w3 rb sb p).heap[k]? = w3.heap[k]? := fun k h1 h2 h3 => aw_heap h1 h2 h3
  obtain ⟨x0, y0, hs0⟩ := hs3
  have s2 : ∃ u, w3.cell? ⟨sb, 2, none⟩ = some u := ⟨_, by rw [cell_of_row _ _ _ _ _ (0, 0) hs0]; rfl⟩
  have s3 : ∃ u, w3.cell? ⟨sb, 3, none⟩ = some u := ⟨_, by rw [cell_of_row _ _ _ _ _ (0, 0) hs0]; rfl⟩
  have hs3 : SeatC w3 sb t 0 := ⟨x0, y0, hs0⟩
  obtain ⟨u2, s2⟩ := s2
  obtain ⟨u3, s3⟩ := s3
  have k2 := aw_k2 (p := p) n1 s2
  have k3 := aw_k3 (rb := rb) n4 s3
  have link3 : Chn w3 (rb :: (blS X ++ [rb])) := h.link.keep (fun a ha => cell_keepH (by
      have hm : a ∈ rb :: blS X := by
        have := List.dropLast_subset _ ha
        simp at this ⊢
        rcases this with h | h | h <;> simp [h]
      exact hk _ (h.node hm).lt (h.node hm).nm)) (fun a ha => cell_keepH (by
      have hm : a ∈ rb :: blS X := by
        have := List.mem_of_mem_tail ha
        simp at this ⊢
        rcases this with h | h | h <;> simp [h]
      exact hk _ (h.node hm).lt (h.node hm).nm))
  obtain ⟨pre2, p2, e2, l1, l2⟩ := link3.lastC
  have e3 := e2.symm.trans hp
  have e4 := List.append_inj' e3 rfl
  obtain ⟨rfl, e5⟩ := e4
  simp at e5
  subst e5
  have k4 := aw_k4 (rb := rb) n4 l2.1
  have k5 := aw_k5 (p := p2) n1 l2.2
  have hall : ∀ a ∈ rb :: blS X, a ≠ sb := fun a ha e => by
    subst e
    rcases List.mem_cons.1 ha with e | e
    · exact n1 e
    · exact hnew e
  refine ⟨(hW qb n2.symm np.nq.symm nr.nq.symm).trans b3, aw_ring r3, fun y hy => ?_, ?_, ?_, ?_, ?_, ?_, h.hq, h.hr, h.hm, fun y hy => ?_⟩
  · rcases List.mem_append.1 hy with hy | hy
    · exact aw_seat ((h.seat y hy).keep (hk _ (h.seat y hy).lt ((h.seat y hy).neMap h.map)))
    · simp at hy; subst hy; exact aw_seat hs3
  · have e6 : rb :: (blS (X ++ [⟨t, 0, sb⟩]) ++ [rb]) = pre2 ++ p2 :: [sb, rb] := by
      have : blS (X ++ [⟨t, 0, sb⟩]) = blS X ++ [sb] := by simp [blS]
      rw [this, show rb :: (blS X ++ [sb] ++ [rb]) = (rb :: blS X) ++ [sb, rb] by simp, hp]
      simp
    rw [e6, Chn.append]
    rw [hp] at hnd hall
    have htail : ∀ a ∈ (pre2 ++ [p2]).tail, a ≠ rb := fun a ha e => by
      rw [← hp] at ha hnd
      simp only [List.tail_cons] at ha
      exact (List.nodup_cons.1 hnd).1 (e ▸ ha)
    refine ⟨l1.keep (fun a ha => aw_c3 (hall a (List.dropLast_subset _ ha)) ?_) (fun a ha => aw_c2 (hall a (List.mem_of_mem_tail ha)) (htail a ha)), ⟨⟨k4, k2⟩, ⟨k3, k5⟩, trivial⟩⟩
    intro e
    subst e
    rw [List.dropLast_concat] at ha
    rw [List.nodup_append] at hnd
    exact hnd.2.2 a ha a (by simp) rfl
  · show s.l ++ [(t, 0)] = _
    rw [h.row]; simp [tcS]
  · rcases h.srv with h1 | ⟨y, hy, e1, e2⟩
    · exact .inl h1
    · exact .inr ⟨y, by simp [hy], e1, e2⟩
  · have : LofS (X ++ [⟨t, 0, sb⟩]) = LofS X ++ [(t, nodeV sb)] := by simp [LofS]
    rw [this]
    exact hm3.keep (hW mb n3.symm np.nm.symm nr.nm.symm)
  · have : blS (X ++ [⟨t, 0, sb⟩]) = blS X ++ [sb] := by simp [blS]
    rw [this, List.nodup_append]
    exact ⟨h.nod, by simp, fun a ha b hb e => by simp at hb; subst hb; subst e; exact hnew ha⟩
  · rcases List.mem_append.1 hy with hy | hy
    · exact h.hx y hy
    · simp at hy; subst hy; exact hB
theorem MovedQ.addedW {p sb : Nat} (h : MovedQ F w w3) (hp : p < w.heap.size → F p) (hr : rb < w.heap.size → F rb) (hs : sb < w.heap.size → F sb) : MovedQ F w (addedW w3 rb sb p) :=
  ((((h.setCell hs _ _).setCell hs _ _).drew.setCell hp _ _).setCell hr _ _).drew

set_option maxHeartbeats 2000000 in
theorem add_any (h : CW w B qb s F) (hB : B ≤ w.heap.size) (t : Tg) (ht : t.length ≤ 140737488355328) : Calls Try.prog 9 #[.pointer (some ⟨qb, 0, none⟩), .string (str8 t)] w (AnsC w B qb F (s.add t)) := by
  unfold AnsC
  have H0 := Lib.hid (LeftC.same h)
  obtain ⟨ho, rb, mb, sv, X, h1, hF⟩ := (show CW w B qb s F from h)
  have HM := Lib.hid ((made_box h1.box).mono fun e w' hx => (show e = .returned (.bool true) ∧ w = w' from ⟨hx.1, hx.2.symm⟩))
  have hts : (str8 t).size = t.length := str8_size t
  by_cases hne : t = []
  · subst hne
    have e : s.add [] = (2, s) := by unfold CP.add; rw [if_neg (by simp [isTag])]
    rw [e]
    have he : (str8 []).toList.isEmpty = true := by rw [str8_toList]; rfl
    clear h h1 hF e ho hts
    go_enter Try.func9, Try.ntmps9
    go_wp2_with (go_at_call 23; refine HM.out.mono ?_; rintro e w1 ⟨rfl, rfl⟩)
    go_ret
    exact ⟨rfl, H0.out⟩
  have he : (str8 t).toList.isEmpty = false := by rw [str8_toList]; simpa using hne
  by_cases hlt : 40 < t.length
  · have e : s.add t = (2, s) := by unfold CP.add; rw [if_neg (by unfold isTag; omega)]
    rw [e]
    have hl : (40 : Int) < ((str8 t).size : Int) := by omega
    clear h h1 hF e ho hts
    go_enter Try.func9, Try.ntmps9
    go_wp2_with (go_at_call 23; refine HM.out.mono ?_; rintro e w1 ⟨rfl, rfl⟩)
    go_ret
    exact ⟨rfl, H0.out⟩
  have hl : ¬ (40 : Int) < ((str8 t).size : Int) := by omega
  have hit : isTag t := ⟨hne, by omega⟩
  have c1 := h1.box.c1
  have hlk := h1.map.look Try.underlying53 (q := t) ht (zeroSeat w)
  cases hg : getA t s.l with
  | some c =>
    obtain ⟨A, x, D, _, _, _, hg2⟩ := h1.split ho hg
    have e : s.add t = (8, s) := by unfold CP.add; rw [if_pos hit, hg]; rfl
    rw [e]
    rw [hg2] at hlk
    replace hlk : (Instr.lookup 53 (.map (some mb)) (.string (str8 t)) true).run Try.prog w = .ok (.tuple #[nodeV x.b, .bool true]) w := hlk
    unfold nodeV at hlk
    clear h h1 hF e ho hts hg hg2
    go_enter Try.func9, Try.ntmps9
    go_wp2_with (go_at_call 23; refine HM.out.mono ?_; rintro e w1 ⟨rfl, rfl⟩)
    go_ret
    exact ⟨rfl, H0.out⟩
  | none =>
    have hg2 : getA t (LofS X) = none := LofS_none (by rw [← h1.row]; exact hg)
    have e : s.add t = (0, ⟨s.l ++ [(t, 0)], s.last⟩) := by unfold CP.add; rw [if_pos hit, hg]; rfl
    have hok : (⟨s.l ++ [(t, 0)], s.last⟩ : CP).ok := by have := ho.add (t := t); rw [e] at this; exact this
    rw [e]
    rw [hg2] at hlk
    replace hlk : (Instr.lookup 53 (.map (some mb)) (.string (str8 t)) true).run Try.prog w = .ok (.tuple #[.pointer none, .bool false]) w := hlk
    have HC := Lib.hid (fun w => clone_any (str8 t) w (by omega))
    have H1 := Lib.hid h1
    have HP := Lib.hid (putA_none (v := nodeV 0) (getA_none_iff.1 hg2))
    have HG := Lib.hid (getA_none_iff.1 hg2)
    have HFF := Lib.hid hF
    have HOK := Lib.hid hok
    clear h h1 hF e ho hts hg hg2 hok
    go_enter Try.func9, Try.ntmps9
    go_wp2_with (first
      | (go_at_call 23; refine HM.out.mono ?_; rintro e w1 ⟨rfl, rfl⟩)
      | (go_at_call 24; refine (HC.out _).mono ?_; rintro e w1 ⟨rfl, hb1⟩))
    obtain ⟨sb, hsb⟩ : ∃ sb, sb = w1.heap.size := ⟨_, rfl⟩
    obtain ⟨w2, hw2⟩ : ∃ w2, w2 = w1.alloc (.cells #[.string (str8 t), .int .u32 0, .pointer none, .pointer none] 64) := ⟨_, rfl⟩
    have hb2 : Below w.heap.size w w2 := by rw [hw2]; exact hb1.alloc hb1.size _
    have h2 := H1.out.below hb2
    have hs2 : w2.heap[sb]? = some (.cells #[.string (str8 t), .int .u32 0, .pointer none, .pointer none] 64 (0, 0)) := by rw [hw2, hsb]; exact heap_alloc_new _ _
    have hsz : w2.heap.size = sb + 1 := by rw [hw2, hsb]; simp
    have hw1s := hb1.size
    have hnew : sb ∉ blS X := fun hm => by
      obtain ⟨x, hx, e⟩ := List.mem_map.1 hm
      have := (H1.out.seat x hx).lt
      omega
    obtain ⟨w3, hput, hm3, hg3, hz3⟩ := (h2.map.keep (w' := w2.drew) rfl).store (T := 53) Try.underlying53 (q := t) ht (nodeV sb)
    rw [putA_none HG.out] at hm3
    have hk3 : ∀ k, k < w2.heap.size → k ≠ mb → w3.heap[k]? = w2.heap[k]? := fun k hk hne => hg3.block k hk (fun e => hne (by simpa using e))
    have hmb := h2.map.lt
    have hsm : sb ≠ mb := h2.map.neCells hs2
    have hs3h := (hk3 sb (by omega) hsm).trans hs2
    have hs3 : SeatC w3 sb t 0 := ⟨none, none, hs3h⟩
    obtain ⟨pre, p, hp⟩ : ∃ pre p, rb :: blS X = pre ++ [p] := ⟨(rb :: blS X).dropLast, (rb :: blS X).getLast (by simp), (List.dropLast_concat_getLast (by simp)).symm⟩
    have hfin := h2.addFin (B := B) hk3 hm3 hs3 hnew (by omega) hp
    have np := h2.node (a := p) (by rw [hp]; simp)
    have nr := h2.node (a := rb) (by simp)
    have r3 : RingC w3 rb sv := h2.ring.keep (hk3 _ nr.lt nr.nm)
    have b3 : BoxR w3 qb rb mb := (hk3 _ h2.box.lt (h2.map.neCells h2.box)).trans h2.box
    have hlink : lkC w2 p rb := by
      obtain ⟨pre2, p2, e2, _, l2⟩ := h2.link.lastC
      have := List.append_inj' (e2.symm.trans hp) rfl
      obtain ⟨_, e5⟩ := this
      simp at e5
      subst e5
      exact l2
    have hpr := hk3 p np.lt np.nm
    have HRA := Lib.hid (radd_any (w := w3) (rb := rb) (sv := sv) (sb := sb) (p := p) (u2 := .pointer none) (u3 := .pointer none) (v3 := nodeV rb) ((cell_keepH (hk3 _ nr.lt nr.nm)).trans hlink.2) r3
      (by rw [World.frozen?_of_block hpr]; exact np.fr 3) ((cell_keepH hpr).trans hlink.1) (by rw [cell_of_row _ _ _ _ _ (0, 0) hs3h]; rfl) (by rw [cell_of_row _ _ _ _ _ (0, 0) hs3h]; rfl) (hs3.fr 2) (hs3.fr 3) (hs3.neRing r3)
      (fun e => by subst e; have := np.lt; rcases List.mem_cons.1 (show sb ∈ rb :: blS X by rw [hp]; simp) with e | e; exact hs3.neRing r3 e; exact hnew e))
    have hmv : MovedQ (FC qb rb mb X) w w3 := ((MovedQ.of_below hb2).drew).grown hg3 (fun k hk _ => .inr (.inr (.inl (by simpa using hk.symm))))
    have HFIN := Lib.hid (show LeftC w B qb F ⟨s.l ++ [(t, 0)], s.last⟩ (addedW w3 rb sb p) from
      ⟨FC qb rb mb (X ++ [⟨t, 0, sb⟩]), ⟨HOK.out, rb, mb, sv, X ++ [⟨t, 0, sb⟩], hfin, rfl⟩, fun k hk => by
        rw [HFF.out]
        rcases hk with h | h | h | ⟨y, hy, rfl⟩
        · exact .inl (.inl h)
        · exact .inl (.inr (.inl h))
        · exact .inl (.inr (.inr (.inl h)))
        · rcases List.mem_append.1 hy with hy | hy
          · exact .inl (.inr (.inr (.inr ⟨y, hy, rfl⟩)))
          · simp at hy; subst hy; exact .inr (by show w.heap.size ≤ sb; omega), by
        rw [HFF.out]
        refine hmv.addedW (fun _ => ?_) (fun _ => .inr (.inl rfl)) (fun h => by omega)
        rcases List.mem_cons.1 (show p ∈ rb :: blS X by rw [hp]; simp) with e | e
        · exact .inr (.inl e)
        · obtain ⟨x, hx, e2⟩ := List.mem_map.1 e
          exact .inr (.inr (.inr ⟨x, hx, e2.symm⟩))⟩)
    have d1 := h2.box.c1
    have d0 : w3.cell? ⟨qb, 0, none⟩ = some (nodeV rb) := b3.c0
    have e0 : w2.cell? ⟨sb, 0, none⟩ = some (.string (str8 t)) := by rw [cell_of_row _ _ _ _ _ (0, 0) hs2]; rfl
    replace hput : (Instr.mapUpdate 53 (.map (some mb)) (.string (str8 t)) (nodeV sb)).run Try.prog w2.drew = .ok () w3 := hput
    have HSB := Lib.hid hsb
    have HW2 := Lib.hid hw2
    rw [← hw2, ← hsb]
    clear hmv hfin np nr r3 b3 hlink hpr hs3 hs3h hsm hmb hk3 hz3 hg3 hm3 hnew hs2 h2 hb2 hw2 hb1 hsz hw1s hsb hp
    unfold nodeV at *
    go_region
    go_wp2_with (go_at_call 25; refine HRA.out.mono ?_; rintro e w4 ⟨rfl, rfl⟩)
    go_ret
    exact ⟨rfl, HFIN.out⟩
end

end Go.Proofs.Ytknfiiacalfelaa
