/-
  Where an append leaves its row: where it was, or in a new block; elements of some cells, and a string's bytes onto bytes.
  Conditions: none but sizes. Nothing here speaks of the program.
-/
import Derived.Test.YtdjahdnaihijjaaGreatDoorBigZ
namespace Go.Proofs.YtdjahdnaihijjaaGreatDoor
open Go.RowKit
set_option linter.unusedVariables false
set_option linter.unusedSimpArgs false

section
variable {α : Type} {C : Code α} {e : TypeId} {w : World} {base : Nat} {v : Value} {l : List α}
/-- Where an append of something leaves its row: where it was, or in a new block. -/
theorem appendG_where {P : Program} (t ty : TypeId) (i : TypeInfo) (z : Value) (bytes : Nat) (ht : P.underlying t = some (.slice e)) (hi : P.info? e = some i) (hz : i.zero = some z)
    (hsize : i.size = C.sz) (hby : i.bytes = bytes) (hown : OwnG C e w base v l) (x : Value) (m : List α) (d : Nat) (hx : ShowsG C w d x m) (hm : 0 < m.length)
    (hb : (l.length + m.length) * bytes ≤ 140737488355328) (hb63 : l.length + m.length ≤ maxLen) (v' : Value) (w' : World) (hr : (Builtin.append_ #[t, t] ty #[v, x]).run P w = .ok v' w') :
    v'.ownBlock = v.ownBlock ∨ v'.ownBlock = some w.heap.size := by
  obtain ⟨A, c, rfl, hmc, hcm, hcell⟩ := hx
  obtain ⟨o, rfl, _, hc⟩ := hcell hm
  have hnews : ∀ (j : Nat) (u : Value), (C.all m)[j]? = some u → w.cell? ((⟨d, o, none⟩ : Addr).add j) = some u := fun j u hu => by
    obtain ⟨q, k, hq, rfl, hk, hu'⟩ := C.all_at m hu
    rw [add_plain', hc q hq k hk]
    exact hu'
  have hsm : l.length + m.length ≤ 9223372036854775807 := by simp only [maxLen] at hb63; omega
  have h0 := hown.2
  rcases h0 with ⟨rfl, hn⟩ | ⟨g, cap, cur, rfl, hbg, hg, hnc, hcm', hcs, htake⟩
  · have hr2 := run_append_nil (P := P) w t ty e i z ht hi hz ⟨d, o, none⟩ m.length c (C.all m) (by rw [C.all_length, hsize]) hnews hm (by omega) (by rw [hby]; have := hb; rw [hn, Nat.zero_add] at this; omega)
    rw [hr] at hr2
    injection hr2 with h1 _
    subst h1
    exact .inr rfl
  · by_cases hroom : l.length + m.length ≤ cap
    · obtain ⟨w2, hr2, _⟩ := run_append_fits (P := P) w base t ty e i C.sz ht hi hsize g l.length cap (C.all l) hown ⟨d, o, none⟩ m.length c (C.all m) (C.all_length m) hnews (C.all_one m) hroom
      rw [hr] at hr2
      injection hr2 with h1 _
      subst h1
      exact .inl rfl
    · have holds : ∀ (j : Nat) (u : Value), (C.all l)[j]? = some u → w.cell? ((⟨g, 0, none⟩ : Addr).add j) = some u := World.ownsRow.cells (g := g) hown rfl
      have hr2 := run_append_grow (P := P) w t ty e i z ht hi hz ⟨g, 0, none⟩ l.length cap (C.all l) (by rw [C.all_length, hsize]) holds ⟨d, o, none⟩ m.length c (C.all m) (by rw [C.all_length, hsize]) hnews (by omega) (by omega) (growslice_fits (by omega) (by rw [hby]; exact hb))
      rw [hr] at hr2
      injection hr2 with h1 _
      subst h1
      exact .inr rfl
theorem wpList_appendGW (C : Code α) {P : Program} (w : World) {ops : Array Oper} {rest : List Oper} {o : Oper} {a : Act} {Q : Exit → Act → World → Prop} (hgd : o.guard = none) (s x : Operand) (t : TypeId)
    (ho : o.op = .call { callee := .builtin .append, args := #[s, x], argTypes := #[t, t] })
    (base : Nat) (e : TypeId) (z : Value) (bytes : Nat) (ht : P.underlying t = some (.slice e)) (hi : (P.info? e).map (fun i => (i.zero, i.size, i.bytes)) = some (some z, C.sz, bytes)) (hzs : z.cells.size = C.sz)
    (v : Value) (l : List α) (hs : a.eval s = v) (hown : OwnG C e w base v l) (d : Nat) (y : Value) (m : List α) (hx : a.eval x = y) (hm : ShowsG C w d y m) (hm0 : 0 < m.length)
    (hb : (l.length + m.length) * bytes ≤ 140737488355328) (hb63 : l.length + m.length ≤ 140737488355328) (hbase : base ≤ w.heap.size)
    (h : ∀ v' w', OwnG C e w' base v' (l ++ m) → w.grownBy w' v.ownBlock → (v'.ownBlock = v.ownBlock ∨ v'.ownBlock = some w.heap.size) → wpList P ops Q rest (a.put o.dst v') w') : wpList P ops Q (o :: rest) a w := by
  obtain ⟨i, hi0, hz, hs1, hb1⟩ := info_parts hi
  obtain ⟨v', w', hr, h2, h3⟩ := run_appendG (P := P) (C := C) t o.type i z bytes ht hi0 hz hs1 hb1 hzs hown y m hm hb (by simp only [maxLen]; omega) hbase
  have h4 := appendG_where (P := P) (C := C) t o.type i z bytes ht hi0 hz hs1 hb1 hown y m d hm hm0 hb (by simp only [maxLen]; omega) v' w' hr
  refine wpList_plain hgd fun K hK => ?_
  unfold Oper.wp execOp
  simp only [ho, resolve, invoke, builtin, Sem.run_bind, Sem.run_pure, Result.andThen_ok, List.map_toArray, List.map_cons, List.map_nil, hs, hx, hr]
  exact hK _ _ (h v' w' h2 h3 h4)
end

/-- An append at a step of a region that draws its order, and where it leaves its row. -/
theorem step_appendGW {α : Type} (C : Code α) {P : Program} (w : World) {ops : Array Oper} {o : Oper} {a : Act} {K : Act → World → Prop} {Q : Exit → Act → World → Prop} {E : Prop} (hgd : o.guard = none) (s x : Operand) (t : TypeId)
    (ho : o.op = .call { callee := .builtin .append, args := #[s, x], argTypes := #[t, t] })
    (base : Nat) (e : TypeId) (z : Value) (bytes : Nat) (ht : P.underlying t = some (.slice e)) (hi : (P.info? e).map (fun i => (i.zero, i.size, i.bytes)) = some (some z, C.sz, bytes)) (hzs : z.cells.size = C.sz)
    (v : Value) (l : List α) (hs : a.eval s = v) (hown : OwnG C e w base v l) (d : Nat) (y : Value) (m : List α) (hx : a.eval x = y) (hm : ShowsG C w d y m) (hm0 : 0 < m.length)
    (hb : (l.length + m.length) * bytes ≤ 140737488355328) (hb63 : l.length + m.length ≤ 140737488355328) (hbase : base ≤ w.heap.size)
    (h : ∀ v' w', OwnG C e w' base v' (l ++ m) → w.grownBy w' v.ownBlock → (v'.ownBlock = v.ownBlock ∨ v'.ownBlock = some w.heap.size) → K (a.put o.dst v') w') :
    if Region.wanted o (yielded ops a.tmps) = true then Oper.wp P o a w K Q else E := by
  have hw : Region.wanted o (yielded ops a.tmps) = true := by simp [Region.wanted, hgd]
  rw [if_pos hw]
  obtain ⟨i, hi0, hz, hs1, hb1⟩ := info_parts hi
  obtain ⟨v', w', hr, h2, h3⟩ := run_appendG (P := P) (C := C) t o.type i z bytes ht hi0 hz hs1 hb1 hzs hown y m hm hb (by simp only [maxLen]; omega) hbase
  have h4 := appendG_where (P := P) (C := C) t o.type i z bytes ht hi0 hz hs1 hb1 hown y m d hm hm0 hb (by simp only [maxLen]; omega) v' w' hr
  unfold Oper.wp execOp
  simp only [ho, resolve, invoke, builtin, Sem.run_bind, Sem.run_pure, Result.andThen_ok, List.map_toArray, List.map_cons, List.map_nil, hs, hx, hr]
  exact h v' w' h2 h3 h4


/-- A string's bytes: where the row is then. -/
theorem append8s_where {P : Program} {e : TypeId} {w : World} {base : Nat} {v : Value} {l : List UInt8} (t u ty : TypeId) (i : TypeInfo) (ht : P.underlying t = some (.slice e)) (hu : P.underlying u = some .string) (hi : P.info? e = some i) (hz : i.zero = some (.int .u8 0))
    (hsize : i.size = 1) (hby : i.bytes = 1) (hown : Own e w base v l) (s : ByteArray) (hb : l.length + s.size ≤ 140737488355328) (hbase : base ≤ w.heap.size) (v' : Value) (w' : World)
    (hr : (Builtin.append_ #[t, u] ty #[v, .string s]).run P w = .ok v' w') : v'.ownBlock = v.ownBlock ∨ ∃ k, v'.ownBlock = some k ∧ w.heap.size ≤ k := by
  have h0 := hown.2
  rcases h0 with ⟨rfl, hn⟩ | ⟨g, cap, cur, rfl, hbg, hg, hnc, hcm', hcs, htake⟩
  · obtain ⟨v2, w2, hr2, h2, h3, h4⟩ := Lib.run_append_own_string (P := P) w w.heap.size t u ty e i ht hu hi hz hsize hby (.slice none 0 0) 0 [] (World.ownsRow_nil w w.heap.size e 1) s (by simp only [maxLen]; omega) (by omega) (Nat.le_refl _)
    rw [hr] at hr2
    injection hr2 with h1 _
    subst h1
    cases hb : v'.ownBlock with
    | none => exact .inl rfl
    | some k => exact .inr ⟨k, rfl, (World.ownsRow.lt h2 k hb).1⟩
  · by_cases hroom : l.length + s.size ≤ cap
    · have hr2 := Lib.run_append_room_string (P := P) w t u ty e i ht hu hi hsize g l.length cap cur hg s hroom (by omega)
      rw [hr] at hr2
      injection hr2 with h1 _
      subst h1
      exact .inl rfl
    · have holds : ∀ (j : Nat) (x : Value), (bs l)[j]? = some x → w.cell? ((⟨g, 0, none⟩ : Addr).add j) = some x := World.ownsRow.cells (g := g) hown rfl
      have hr2 := Lib.run_append_grow_string (P := P) w t u ty e i (.int .u8 0) ht hu hi hz ⟨g, 0, none⟩ l.length cap (bs l) (by rw [bs_length, hsize, Nat.mul_one]) holds s (by omega) (by omega) (growslice_fits (by omega) (by rw [hby]; omega))
      rw [hr] at hr2
      injection hr2 with h1 _
      subst h1
      exact .inr ⟨_, rfl, Nat.le_refl _⟩

theorem step_append8sW {P : Program} (w : World) {ops : Array Oper} {o : Oper} {a : Act} {K : Act → World → Prop} {Q : Exit → Act → World → Prop} {E : Prop} (hgd : o.guard = none) (sl x : Operand) (t u : TypeId)
    (ho : o.op = .call { callee := .builtin .append, args := #[sl, x], argTypes := #[t, u] })
    (base : Nat) (e : TypeId) (ht : P.underlying t = some (.slice e)) (hu : P.underlying u = some .string) (hi : (P.info? e).map (fun i => (i.zero, i.size, i.bytes)) = some (some (.int .u8 0), 1, 1))
    (v : Value) (l : List UInt8) (hs : a.eval sl = v) (hown : Own e w base v l) (s : ByteArray) (hx : a.eval x = .string s)
    (hb : l.length + s.size ≤ 140737488355328) (hbase : base ≤ w.heap.size)
    (h : ∀ v' w', Own e w' base v' (l ++ sb s) → w.grownBy w' v.ownBlock → (v'.ownBlock = v.ownBlock ∨ ∃ k, v'.ownBlock = some k ∧ w.heap.size ≤ k) → K (a.put o.dst v') w') :
    if Region.wanted o (yielded ops a.tmps) = true then Oper.wp P o a w K Q else E := by
  have hw : Region.wanted o (yielded ops a.tmps) = true := by simp [Region.wanted, hgd]
  rw [if_pos hw]
  obtain ⟨i, hi0, hz, hs1, hb1⟩ := info_parts hi
  obtain ⟨v', w', hr, h2, h3, _⟩ := Lib.run_append_own_string (P := P) w base t u o.type e i ht hu hi0 hz hs1 hb1 v l.length (bs l) hown s (by simp only [maxLen]; omega) hb hbase
  have h4 := append8s_where (P := P) t u o.type i ht hu hi0 hz hs1 hb1 hown s hb hbase v' w' hr
  unfold Oper.wp execOp
  simp only [ho, resolve, invoke, builtin, Sem.run_bind, Sem.run_pure, Result.andThen_ok, List.map_toArray, List.map_cons, List.map_nil, hs, hx, hr]
  refine h v' w' ?_ h3 h4
  unfold Own
  rw [bs_append, List.length_append, sb_length]
  exact h2

theorem wpList_append8sW {P : Program} (w : World) {ops : Array Oper} {rest : List Oper} {o : Oper} {a : Act} {Q : Exit → Act → World → Prop} (hgd : o.guard = none) (sl x : Operand) (t u : TypeId)
    (ho : o.op = .call { callee := .builtin .append, args := #[sl, x], argTypes := #[t, u] })
    (base : Nat) (e : TypeId) (ht : P.underlying t = some (.slice e)) (hu : P.underlying u = some .string) (hi : (P.info? e).map (fun i => (i.zero, i.size, i.bytes)) = some (some (.int .u8 0), 1, 1))
    (v : Value) (l : List UInt8) (hs : a.eval sl = v) (hown : Own e w base v l) (s : ByteArray) (hx : a.eval x = .string s)
    (hb : l.length + s.size ≤ 140737488355328) (hbase : base ≤ w.heap.size)
    (h : ∀ v' w', Own e w' base v' (l ++ sb s) → w.grownBy w' v.ownBlock → (v'.ownBlock = v.ownBlock ∨ ∃ k, v'.ownBlock = some k ∧ w.heap.size ≤ k) → wpList P ops Q rest (a.put o.dst v') w') : wpList P ops Q (o :: rest) a w := by
  obtain ⟨i, hi0, hz, hs1, hb1⟩ := info_parts hi
  obtain ⟨v', w', hr, h2, h3, _⟩ := Lib.run_append_own_string (P := P) w base t u o.type e i ht hu hi0 hz hs1 hb1 v l.length (bs l) hown s (by simp only [maxLen]; omega) hb hbase
  have h4 := append8s_where (P := P) t u o.type i ht hu hi0 hz hs1 hb1 hown s hb hbase v' w' hr
  refine wpList_plain hgd fun K hK => ?_
  unfold Oper.wp execOp
  simp only [ho, resolve, invoke, builtin, Sem.run_bind, Sem.run_pure, Result.andThen_ok, List.map_toArray, List.map_cons, List.map_nil, hs, hx, hr]
  refine hK _ _ (h v' w' ?_ h3 h4)
  unfold Own
  rw [bs_append, List.length_append, sb_length]
  exact h2

end Go.Proofs.YtdjahdnaihijjaaGreatDoor
