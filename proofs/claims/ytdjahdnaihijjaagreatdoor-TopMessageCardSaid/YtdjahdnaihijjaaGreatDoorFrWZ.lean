/-
  Where an append of bytes leaves its row: where it was, or in a new block.
  Conditions: none but sizes.
-/
import Derived.Test.YtdjahdnaihijjaaGreatDoorFrSZ
namespace Go.Proofs.YtdjahdnaihijjaaGreatDoor
open Go.RowKit
set_option linter.unusedVariables false
set_option linter.unusedSimpArgs false

theorem run_append8W {P : Program} {e : TypeId} {w : World} {base : Nat} {v : Value} {l : List UInt8} (t ty : TypeId) (i : TypeInfo) (ht : P.underlying t = some (.slice e)) (hi : P.info? e = some i) (hz : i.zero = some (.int .u8 0))
    (hsize : i.size = 1) (hby : i.bytes = 1) (hown : Own e w base v l) (d : Nat) (x : Value) (m : List UInt8) (hx : Shows w d x m)
    (hb : l.length + m.length ≤ 140737488355328) (hbase : base ≤ w.heap.size) :
    ∃ v' w', (Builtin.append_ #[t, t] ty #[v, x]).run P w = .ok v' w' ∧ Own e w' base v' (l ++ m) ∧ w.grownBy w' v.ownBlock ∧ (v'.ownBlock = v.ownBlock ∨ v'.ownBlock = some w.heap.size) := by
  obtain ⟨v', w', hr, h1, h2⟩ := run_append_own8 (P := P) w base t ty e i ht hi hz hsize hby v l hown d x m hx hb hbase
  refine ⟨v', w', hr, h1, h2, ?_⟩
  obtain ⟨A, c, rfl, hmc, hcm, hcell⟩ := hx
  by_cases hm : 0 < m.length
  · obtain ⟨o, rfl, _, hc⟩ := hcell hm
    have hnews : ∀ (j : Nat) (u : Value), (bs m)[j]? = some u → w.cell? ((⟨d, o, none⟩ : Addr).add j) = some u := fun j u hu => by
      obtain ⟨hj, rfl⟩ := bs_get hu
      rw [add_plain']
      exact hc j hj
    have hsm : l.length + m.length ≤ 9223372036854775807 := by omega
    have h0 := hown.2
    rcases h0 with ⟨rfl, hn⟩ | ⟨g, cap, cur, rfl, hbg, hg, hnc, hcm', hcs, htake⟩
    · have hr2 := run_append_nil (P := P) w t ty e i (.int .u8 0) ht hi hz ⟨d, o, none⟩ m.length c (bs m) (by rw [bs_length, hsize, Nat.mul_one]) hnews hm (by omega) (by rw [hby]; omega)
      rw [hr] at hr2
      injection hr2 with h1 _
      subst h1
      exact .inr rfl
    · by_cases hroom : l.length + m.length ≤ cap
      · obtain ⟨w2, hr2, _⟩ := run_append_fits (P := P) w base t ty e i 1 ht hi hsize g l.length cap (bs l) hown ⟨d, o, none⟩ m.length c (bs m) (by rw [bs_length, Nat.mul_one]) hnews (bs_one m) hroom
        rw [hr] at hr2
        injection hr2 with h1 _
        subst h1
        exact .inl rfl
      · have holds : ∀ (j : Nat) (u : Value), (bs l)[j]? = some u → w.cell? ((⟨g, 0, none⟩ : Addr).add j) = some u := World.ownsRow.cells (g := g) hown rfl
        have hr2 := run_append_grow (P := P) w t ty e i (.int .u8 0) ht hi hz ⟨g, 0, none⟩ l.length cap (bs l) (by rw [bs_length, hsize, Nat.mul_one]) holds ⟨d, o, none⟩ m.length c (bs m) (by rw [bs_length, hsize, Nat.mul_one]) hnews (by omega) (by omega) (growslice_fits (by omega) (by rw [hby]; omega))
        rw [hr] at hr2
        injection hr2 with h1 _
        subst h1
        exact .inr rfl
  · have : m = [] := List.eq_nil_of_length_eq_zero (by omega)
    subst this
    have h0 : ∀ a : Addr, (loadCells a 0).run P w = .ok #[] w := fun a => by simpa using run_loadCells_list (P := P) w a [] (by simp)
    have hr2 : (Builtin.append_ #[t, t] ty #[v, .slice A ([] : List UInt8).length c]).run P w = .ok v w := by
      rcases hown.2 with ⟨rfl, hn⟩ | ⟨g, cap, cur, rfl, _, _, hnc, _⟩
      · rcases A with _ | a <;> simp [Builtin.append_, run_underlying ht, sizeOf, typeInfo, hi, Builtin.lenOf, Builtin.firstCells, h0]
      · rcases A with _ | a <;> simp [Builtin.append_, run_underlying ht, sizeOf, typeInfo, hi, Builtin.lenOf, Builtin.firstCells, hnc, storeCells, h0]
    rw [hr] at hr2
    injection hr2 with h1 _
    subst h1
    exact .inl rfl

theorem wpList_append8W {P : Program} (w : World) {ops : Array Oper} {rest : List Oper} {o : Oper} {a : Act} {Q : Exit → Act → World → Prop} (hgd : o.guard = none) (s x : Operand) (t : TypeId)
    (ho : o.op = .call { callee := .builtin .append, args := #[s, x], argTypes := #[t, t] })
    (base : Nat) (e : TypeId) (ht : P.underlying t = some (.slice e)) (hi : (P.info? e).map (fun i => (i.zero, i.size, i.bytes)) = some (some (.int .u8 0), 1, 1))
    (v : Value) (l : List UInt8) (hs : a.eval s = v) (hown : Own e w base v l) (d : Nat) (y : Value) (m : List UInt8) (hx : a.eval x = y) (hm : Shows w d y m)
    (hb : l.length + m.length ≤ 140737488355328) (hbase : base ≤ w.heap.size)
    (h : ∀ v' w', Own e w' base v' (l ++ m) → w.grownBy w' v.ownBlock → (v'.ownBlock = v.ownBlock ∨ v'.ownBlock = some w.heap.size) → wpList P ops Q rest (a.put o.dst v') w') : wpList P ops Q (o :: rest) a w := by
  obtain ⟨i, hi0, hz, hs1, hb1⟩ := info_parts hi
  obtain ⟨v', w', hr, h2, h3, h4⟩ := run_append8W (P := P) t o.type i ht hi0 hz hs1 hb1 hown d y m hm hb hbase
  refine wpList_plain hgd fun K hK => ?_
  unfold Oper.wp execOp
  simp only [ho, resolve, invoke, builtin, Sem.run_bind, Sem.run_pure, Result.andThen_ok, List.map_toArray, List.map_cons, List.map_nil, hs, hx, hr]
  exact hK _ _ (h v' w' h2 h3 h4)

/-- Two rows lie in different blocks. -/
def Apt (v1 v2 : Value) : Prop := ∀ g, v1.ownBlock = some g → v2.ownBlock ≠ some g
theorem Apt.symm {v1 v2 : Value} (h : Apt v1 v2) : Apt v2 v1 := fun g h1 h2 => h g h2 h1
theorem Apt.ne {v1 v2 : Value} (h : Apt v1 v2) : v2.ownBlock = none ∨ v2.ownBlock ≠ v1.ownBlock := by
  cases hb : v2.ownBlock with
  | none => exact .inl rfl
  | some g => exact .inr (fun e => h g e.symm hb)
theorem Apt.grow {v1 v1' v2 : Value} {w : World} {e : TypeId} {b : Nat} {l : List UInt8} (h : Apt v1 v2) (hw : v1'.ownBlock = v1.ownBlock ∨ v1'.ownBlock = some w.heap.size) (h2 : Own e w b v2 l) : Apt v1' v2 := by
  intro g h3 h4
  rcases hw with hw | hw
  · rw [hw] at h3; exact h g h3 h4
  · rw [hw] at h3
    cases h3
    have := (h2.block _ h4).2
    omega

end Go.Proofs.YtdjahdnaihijjaaGreatDoor
