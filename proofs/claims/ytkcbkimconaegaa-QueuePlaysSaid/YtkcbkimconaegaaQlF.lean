/-
  One queue of the program beside a row that grows; messages that stand in order.
  Conditions: none but sizes.
-/
import Derived.Test.YtkcbkimconaegaaQlD
namespace Go.Proofs.Ytkcbkimconaegaa
open Go.RowKit
set_option linter.unusedVariables false
set_option linter.unusedSimpArgs false
set_option maxRecDepth 100000

section
variable {α : Type} {C : Code α} {e : TypeId} {w : World} {base : Nat} {v : Value} {l : List α}
/-- Where an append of something leaves its row: where it was, or in a new block. -/
theorem append_where {P : Program} (t ty : TypeId) (i : TypeInfo) (z : Value) (bytes : Nat) (ht : P.underlying t = some (.slice e)) (hi : P.info? e = some i) (hz : i.zero = some z)
    (hsize : i.size = C.sz) (hby : i.bytes = bytes) (hown : OwnG C e w base v l) (x : Value) (m : List α) (d : Nat) (hx : ShowsG C w d x m) (hm : 0 < m.length)
    (hb : (l.length + m.length) * bytes ≤ 140737488355328) (hb63 : l.length + m.length ≤ maxLen) (v' : Value) (w' : World) (hr : (Builtin.append_ #[t, t] ty #[v, x]).run P w = .ok v' w') :
    v'.ownBlock = v.ownBlock ∨ v'.ownBlock = some w.heap.size := by
  obtain ⟨A, c, rfl, hmc, hcm, hcell⟩ := hx
  obtain ⟨o, rfl, _, hc⟩ := hcell hm
  have hnews : ∀ (j : Nat) (u : Value), (C.all m)[j]? = some u → w.cell? ((⟨d, o, none⟩ : Addr).add j) = some u := fun j u hu => by
    obtain ⟨q, k, hq, rfl, hk, hu'⟩ := C.all_at m hu
    rw [add_plain', hc q hq k hk]
    exact hu'
  have hsm : l.length + m.length ≤ 9223372036854775807 := by simp only [maxLen] at hb63; omega
  have h0 := hown.2
  rcases h0 with ⟨rfl, hn⟩ | ⟨g, cap, cur, rfl, hbg, hg, hnc, hcm', hcs, htake⟩
  · have hr2 := run_append_nil (P := P) w t ty e i z ht hi hz ⟨d, o, none⟩ m.length c (C.all m) (by rw [C.all_length, hsize]) hnews hm (by omega) (by rw [hby]; have := hb; rw [hn, Nat.zero_add] at this; omega)
    rw [hr] at hr2
    injection hr2 with h1 _
    subst h1
    exact .inr rfl
  · by_cases hroom : l.length + m.length ≤ cap
    · obtain ⟨w2, hr2, _⟩ := run_append_fits (P := P) w base t ty e i C.sz ht hi hsize g l.length cap (C.all l) hown ⟨d, o, none⟩ m.length c (C.all m) (C.all_length m) hnews (C.all_one m) hroom
      rw [hr] at hr2
      injection hr2 with h1 _
      subst h1
      exact .inl rfl
    · have holds : ∀ (j : Nat) (u : Value), (C.all l)[j]? = some u → w.cell? ((⟨g, 0, none⟩ : Addr).add j) = some u := World.ownsRow.cells (g := g) hown rfl
      have hr2 := run_append_grow (P := P) w t ty e i z ht hi hz ⟨g, 0, none⟩ l.length cap (C.all l) (by rw [C.all_length, hsize]) holds ⟨d, o, none⟩ m.length c (C.all m) (by rw [C.all_length, hsize]) hnews (by omega) (by omega) (growslice_fits (by omega) (by rw [hby]; exact hb))
      rw [hr] at hr2
      injection hr2 with h1 _
      subst h1
      exact .inr rfl

theorem wpList_appendW (C : Code α) {P : Program} (w : World) {ops : Array Oper} {rest : List Oper} {o : Oper} {a : Act} {Q : Exit → Act → World → Prop} (hgd : o.guard = none) (s x : Operand) (t : TypeId)
    (ho : o.op = .call { callee := .builtin .append, args := #[s, x], argTypes := #[t, t] })
    (base : Nat) (e : TypeId) (z : Value) (bytes : Nat) (ht : P.underlying t = some (.slice e)) (hi : (P.info? e).map (fun i => (i.zero, i.size, i.bytes)) = some (some z, C.sz, bytes)) (hzs : z.cells.size = C.sz)
    (v : Value) (l : List α) (hs : a.eval s = v) (hown : OwnG C e w base v l) (d : Nat) (y : Value) (m : List α) (hx : a.eval x = y) (hm : ShowsG C w d y m) (hm0 : 0 < m.length)
    (hb : (l.length + m.length) * bytes ≤ 140737488355328) (hb63 : l.length + m.length ≤ 140737488355328) (hbase : base ≤ w.heap.size)
    (h : ∀ v' w', OwnG C e w' base v' (l ++ m) → w.grownBy w' v.ownBlock → (v'.ownBlock = v.ownBlock ∨ v'.ownBlock = some w.heap.size) → wpList P ops Q rest (a.put o.dst v') w') : wpList P ops Q (o :: rest) a w := by
  obtain ⟨i, hi0, hz, hs1, hb1⟩ := info_parts hi
  obtain ⟨v', w', hr, h2, h3⟩ := run_appendG (P := P) (C := C) t o.type i z bytes ht hi0 hz hs1 hb1 hzs hown y m hm hb (by simp only [maxLen]; omega) hbase
  have h4 := append_where (P := P) (C := C) t o.type i z bytes ht hi0 hz hs1 hb1 hown y m d hm hm0 hb (by simp only [maxLen]; omega) v' w' hr
  refine wpList_plain hgd fun K hK => ?_
  unfold Oper.wp execOp
  simp only [ho, resolve, invoke, builtin, Sem.run_bind, Sem.run_pure, Result.andThen_ok, List.map_toArray, List.map_cons, List.map_nil, hs, hx, hr]
  exact hK _ _ (h v' w' h2 h3 h4)
end

/-- A queue of the program, apart from the blocks of X. -/
structure UnX (w0 : World) (pb : Nat) (p : QP) (X : Nat → Prop) (w : World) : Prop where
  bel : Below w0.heap.size w0 w
  ok : p.ok
  one : ∃ F, PW w w0.heap.size pb p F ∧ ∀ k, X k → k < w.heap.size ∧ ¬ F k
section
variable {w0 w w' : World} {pb : Nat} {p p' : QP} {X : Nat → Prop} {r : Ending} {f : FuncId} {args : Array Value}
theorem UnX.step (h : UnX w0 pb p X w) (hb : Below w.heap.size w w') : UnX w0 pb p X w' ∧ KeptX X w w' := by
  obtain ⟨F, h1, h2⟩ := h.one
  exact ⟨⟨h.bel.trans (hb.mono h.bel.size), h.ok, F, h1.keep fun k hk => hb.block k (h1.foot k hk).2, fun k hk => ⟨Nat.lt_of_lt_of_le (h2 k hk).1 hb.size, (h2 k hk).2⟩⟩, fun k hk => hb.block k (h2 k hk).1⟩
theorem UnX.call (h : UnX w0 pb p X w) (ho : p'.ok) (hc : ∀ F, PW w w0.heap.size pb p F → Calls Try.prog f args w fun e w' => e = r ∧ LeftP w w0.heap.size pb F p' w') : Calls Try.prog f args w fun e w' => e = r ∧ UnX w0 pb p' X w' ∧ KeptX X w w' := by
  obtain ⟨F, h1, h2⟩ := h.one
  refine (hc F h1).mono ?_
  rintro e w' ⟨rfl, F', g1, g2, g3⟩
  refine ⟨rfl, ⟨g3.below h.bel (fun k hk => (h1.foot k hk).1) h.bel.size, ho, F', g1, fun k hk => ⟨Nat.lt_of_lt_of_le (h2 k hk).1 g3.size, fun hF => ?_⟩⟩, fun k hk => g3.block k (h2 k hk).1 (h2 k hk).2⟩
  rcases g2 k hF with h5 | h5
  · exact (h2 k hk).2 h5
  · have := (h2 k hk).1; omega
theorem UnX.callR (h : UnX w0 pb p X w) (hc : ∀ F, PW w w0.heap.size pb p F → Calls Try.prog f args w fun e w' => e = r ∧ Below w.heap.size w w') : Calls Try.prog f args w fun e w' => e = r ∧ UnX w0 pb p X w' ∧ KeptX X w w' := by
  obtain ⟨F, h1, h2⟩ := h.one
  refine (hc F h1).mono ?_
  rintro e w' ⟨rfl, hb⟩
  exact ⟨rfl, h.step hb⟩
theorem UnX.put (h : UnX w0 pb p X w) (hn : p.l.length ≤ 1000000) (id : Nat) (hi : id < 18446744073709551616) : Calls Try.prog 13 #[.pointer (some ⟨pb, 0, none⟩), .int .u64 id] w fun e w' => e = .returned (.int .i64 (p.put id).1) ∧ UnX w0 pb (p.put id).2 X w' ∧ KeptX X w w' :=
  h.call (h.ok.put hi) fun F hF => pputQ_any hF h.ok hn h.bel.size id hi
theorem UnX.next (h : UnX w0 pb p X w) (hn : p.l.length ≤ 1000000) (ow : Nat) (hi : ow < 18446744073709551616) : Calls Try.prog 14 #[.pointer (some ⟨pb, 0, none⟩), .int .u64 ow] w fun e w' => e = .returned (.tuple #[.int .u64 (p.next ow).1.1, .bool (p.next ow).1.2]) ∧ UnX w0 pb (p.next ow).2 X w' ∧ KeptX X w w' :=
  h.call (h.ok.next hi) fun F hF => pnext_any hF h.ok hn h.bel.size ow hi
theorem UnX.free (h : UnX w0 pb p X w) (hn : p.l.length ≤ 1000000) (id ow : Nat) (hi : id < 18446744073709551616) (hi2 : ow < 18446744073709551616) : Calls Try.prog 16 #[.pointer (some ⟨pb, 0, none⟩), .int .u64 id, .int .u64 ow] w fun e w' => e = .returned (.int .i64 (p.hands id ow 0).1) ∧ UnX w0 pb (p.hands id ow 0).2 X w' ∧ KeptX X w w' :=
  h.call (h.ok.hands (by omega)) fun F hF => pfree_any hF h.ok hn h.bel.size id ow hi hi2
theorem UnX.owner (h : UnX w0 pb p X w) (hn : p.l.length ≤ 1000000) (id : Nat) (hi : id < 18446744073709551616) : Calls Try.prog 10 #[.pointer (some ⟨pb, 0, none⟩), .int .u64 id] w fun e w' => e = .returned (.tuple #[.int .u64 (p.owner id).1, .int .i64 (p.owner id).2]) ∧ UnX w0 pb p X w' ∧ KeptX X w w' :=
  h.callR fun F h1 => powner_any h1 h.ok hn id hi
theorem UnX.ready (h : UnX w0 pb p X w) (hn : p.l.length ≤ 1000000) : Calls Try.prog 15 #[.pointer (some ⟨pb, 0, none⟩)] w fun e w' => e = .returned (.int .i64 (ofQ 0 p.l).length) ∧ UnX w0 pb p X w' ∧ KeptX X w w' :=
  h.callR fun F h1 => pready_any h1 h.ok hn
theorem UnX.of_below {w1 : World} (hb : Below w.heap.size w w1) (h1 : ∃ F, PW w1 w.heap.size pb p F) (ho : p.ok) (hX : ∀ k, ¬ X k) : UnX w pb p X w1 := by
  obtain ⟨F, h1⟩ := h1
  exact ⟨hb, ho, F, h1, fun k hk => absurd hk (hX k)⟩
end

/-- A queue and a row of the law's own. -/
structure OrdS (w0 : World) (pb : Nat) (v : Value) (L : List Nat) (q : QP) (w : World) : Prop where
  d : UnX w0 pb q (fun k => v.ownBlock = some k) w
  o : OwnG (natC .u64) 22 w w0.heap.size v L
theorem OrdS.keep {w0 w w' : World} {pb : Nat} {v : Value} {L : List Nat} {q q' : QP} (h : OrdS w0 pb v L q w) (hd : UnX w0 pb q' (fun k => v.ownBlock = some k) w') (hk : KeptX (fun k => v.ownBlock = some k) w w') : OrdS w0 pb v L q' w' :=
  ⟨hd, h.o.keep fun g hg => hk g hg⟩
/-- Something is appended. -/
theorem OrdS.push {w0 w w2 : World} {pb : Nat} {v v' : Value} {L L' : List Nat} {q : QP} {o : Obj} (h : OrdS w0 pb v L q w) (hg : (w.alloc o).grownBy w2 v.ownBlock) (hv : v'.ownBlock = v.ownBlock ∨ v'.ownBlock = some (w.alloc o).heap.size) (ho : OwnG (natC .u64) 22 w2 w0.heap.size v' L') : OrdS w0 pb v' L' q w2 := by
  obtain ⟨F, h1, h2⟩ := h.d.one
  have hb : Below w.heap.size w (w.alloc o) := (Below.refl _ _).alloc (Nat.le_refl _) _
  have hb0 : Below w0.heap.size w0 (w.alloc o) := h.d.bel.alloc h.d.bel.size _
  have hz : (w.alloc o).heap.size = w.heap.size + 1 := by simp
  refine ⟨⟨hb0.grown hg hb0.size (fun k hk => (h.o.block k hk).1), h.d.ok, F, h1.keep fun k hk => ?_, fun k hk => ⟨(ho.block k hk).2, fun hF => ?_⟩⟩, ho⟩
  · have := (h1.foot k hk).2
    exact (hg.block k (by omega) (fun e => (h2 k e.symm).2 hk)).trans (hb.block k this)
  · rcases hv with e | e
    · exact (h2 k (e ▸ hk)).2 hF
    · have h3 := (h1.foot k hF).2
      rw [e] at hk
      cases hk
      omega

/-- The messages as they were put. -/
def ordQ (L : List Nat) (id : Nat) : QP := ⟨100, L.map (fun n => (n, 0)), 0, id⟩
theorem ord_put {L : List Nat} {id id2 : Nat} (hL : L.length < 100) (h : id < id2) : (ordQ L id).put id2 = (0, ordQ (L ++ [id2]) id2) := by
  unfold QP.put
  rw [if_neg (show ¬ id2 ≤ (ordQ L id).last by show ¬ id2 ≤ id; omega), if_neg (show ¬ (ordQ L id).room = 0 by show ¬ (100 - ((L.map (fun n => ((n, 0) : Nat × Nat))).length + 0)) = 0; rw [List.length_map]; omega)]
  unfold QP.add ordQ
  simp
/-- The first j are out. -/
structure MidQ (L : List Nat) (j : Nat) (M : List (Nat × Nat)) : Prop where
  len : M.map (·.1) = L
  lo : ∀ k (h : k < M.length), k < j → M[k].2 ≠ 0
  hi : ∀ k (h : k < M.length), j ≤ k → M[k].2 = 0
theorem MidQ.start (L : List Nat) : MidQ L 0 (L.map (fun n => (n, 0))) := ⟨by simp [List.map_map, Function.comp_def], fun k h hk => by omega, fun k h _ => by simp⟩
theorem MidQ.leng {L : List Nat} {j : Nat} {M : List (Nat × Nat)} (h : MidQ L j M) : M.length = L.length := by rw [← h.len, List.length_map]
theorem MidQ.fst {L : List Nat} {j : Nat} {M : List (Nat × Nat)} (h : MidQ L j M) {k : Nat} (hk : k < L.length) (hk2 : k < M.length) : M[k].1 = L[k] := by
  have := h.len
  subst this
  simp
theorem MidQ.next {L : List Nat} {j lim kept last : Nat} {M : List (Nat × Nat)} (h : MidQ L j M) (hj : j < L.length) {ow : Nat} (ho : ow ≠ 0) :
    (⟨lim, M, kept, last⟩ : QP).next ow = ((L[j], true), ⟨lim, M.set j (L[j], ow), kept, last⟩) ∧ MidQ L (j + 1) (M.set j (L[j], ow)) := by
  have hl := h.leng
  have hjm : j < M.length := by omega
  have hp : placeQ (fun x => decide (x.2 = 0)) M = some j := placeQ_some hjm (by simpa using h.hi j hjm (Nat.le_refl _)) fun k hk hkj => by simpa using h.lo k hk hkj
  have hat : (⟨lim, M, kept, last⟩ : QP).at_ j = M[j] := QP.at_get (q := ⟨lim, M, kept, last⟩) hjm
  have hf := h.fst hj hjm
  refine ⟨?_, ?_, ?_, ?_⟩
  · unfold QP.next
    rw [if_neg ho]
    show (match placeQ (fun x => decide (x.2 = 0)) M with | none => _ | some i => _) = _
    rw [hp]
    show ((((⟨lim, M, kept, last⟩ : QP).at_ j).1, true), (⟨lim, M, kept, last⟩ : QP).own j ow) = _
    unfold QP.own
    rw [hat, hf]
  · apply List.ext_getElem
    · rw [List.length_map, List.length_set]; omega
    · intro k h1 h2
      rw [List.getElem_map, List.getElem_set]
      split
      · subst_vars; rfl
      · exact h.fst h2 (by omega)
  · intro k h1 h2
    rw [List.getElem_set]
    split
    · exact ho
    · exact h.lo k (by rw [List.length_set] at h1; exact h1) (by omega)
  · intro k h1 h2
    rw [List.getElem_set_ne (by omega)]
    exact h.hi k (by rw [List.length_set] at h1; exact h1) (by omega)
theorem MidQ.ready {L : List Nat} {j : Nat} {M : List (Nat × Nat)} (h : MidQ L j M) (hj : j ≤ L.length) : (ofQ 0 M).length = L.length - j := by
  have hl := h.leng
  unfold ofQ
  rw [List.length_map]
  conv => lhs; rw [← List.take_append_drop j M]
  rw [List.filter_append]
  have h1 : (M.take j).filter (fun x => decide (x.2 = 0)) = [] := by
    rw [List.filter_eq_nil_iff]
    intro x hx
    obtain ⟨k, hk, rfl⟩ := List.getElem_of_mem hx
    rw [List.length_take] at hk
    rw [List.getElem_take]
    simpa using h.lo k (by omega) (by omega)
  have h2 : (M.drop j).filter (fun x => decide (x.2 = 0)) = M.drop j := by
    rw [List.filter_eq_self]
    intro x hx
    obtain ⟨k, hk, rfl⟩ := List.getElem_of_mem hx
    rw [List.length_drop] at hk
    rw [List.getElem_drop]
    simpa using h.hi (j + k) (by omega) (by omega)
  rw [h1, h2, List.nil_append, List.length_drop]
  omega
theorem MidQ.done {L : List Nat} {lim kept last : Nat} {M : List (Nat × Nat)} (h : MidQ L L.length M) {ow : Nat} : (⟨lim, M, kept, last⟩ : QP).next ow = ((0, false), ⟨lim, M, kept, last⟩) := by
  have hp : placeQ (fun x => decide (x.2 = 0)) M = none := placeQ_none fun k hk => by simpa using h.lo k hk (by rw [← h.leng]; exact hk)
  unfold QP.next
  split
  · rfl
  · show (match placeQ (fun x => decide (x.2 = 0)) M with | none => _ | some i => _) = _
    rw [hp]

end Go.Proofs.Ytkcbkimconaegaa
