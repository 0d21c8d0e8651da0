/-
  Appends to rows of the call's own, for texts and slices that are together a little more than 2^47 bytes.
  Conditions: none.
-/
import Derived.Test.YtknfiiacalfelaaMem
namespace Go.Proofs.Ytknfiiacalfelaa
open Go.RowKit
set_option linter.unusedVariables false
set_option linter.unusedSimpArgs false

theorem grow_fits {need old : Nat} (h : old < need) (hb : need ≤ 140746078289920) : Builtin.nextslicecap need old ≤ 281474976710656 := by
  unfold Builtin.nextslicecap
  split
  · omega
  · split
    · omega
    · rw [growBy_four]
      repeat' split
      all_goals omega

/-- A new row behind a growth. -/
theorem grown_row {w : World} {base : Nat} {e : TypeId} (l m : List UInt8) (old : Nat) (hbase : base ≤ w.heap.size) (hm : l.length + m.length ≤ maxLen) (row : Option Nat) (cs : Array Value) (hcs : cs = (bs (l ++ m)).toArray ++ Builtin.zeroCells (Value.int .u8 0).cells (grownCap w (l.length + m.length) old e - (l.length + m.length))) :
    Own e (w.drew.alloc (.cells cs e)) base (.slice (some ⟨w.heap.size, 0, none⟩) (l.length + m.length) (grownCap w (l.length + m.length) old e)) (l ++ m) ∧ w.grownBy (w.drew.alloc (.cells cs e)) row := by
  subst hcs
  have hge := grownCap_ge w (l.length + m.length) old e
  have hcm := grownCap_le_maxLen w (l.length + m.length) old e hm
  have hz1 : (Value.int IntKind.u8 0).cells.size = 1 := rfl
  refine ⟨⟨by simp [bs], .inr ⟨w.heap.size, _, _, by rw [List.length_append], hbase, heap_alloc_new w.drew _, by rw [List.length_append]; exact hge, hcm, ?_, ?_⟩⟩, ⟨rfl, rfl, rfl, by simp, fun k hk _ => Below.heap_alloc w.drew _ k hk⟩⟩
  · simp only [Array.size_append, List.size_toArray, size_zeroCells, hz1, bs_length, List.length_append]
    omega
  · simp only [Array.toList_append, Nat.mul_one]
    rw [← bs_length (l ++ m)]
    exact List.take_left

/-- 'append' of shown bytes, together at most 2^47 + 2^33. -/
theorem run_append_big8 {P : Program} (w : World) (base : Nat) (t ty e : TypeId) (i : TypeInfo) (ht : P.underlying t = some (.slice e)) (hi : P.info? e = some i) (hz : i.zero = some (.int .u8 0))
    (hsize : i.size = 1) (hby : i.bytes = 1) (v : Value) (l : List UInt8) (hown : Own e w base v l) (d : Nat) (x : Value) (m : List UInt8) (hx : Shows w d x m)
    (hb : l.length + m.length ≤ 140746078289920) (hbase : base ≤ w.heap.size) :
    ∃ v' w', (Builtin.append_ #[t, t] ty #[v, x]).run P w = .ok v' w' ∧ Own e w' base v' (l ++ m) ∧ w.grownBy w' v.ownBlock := by
  by_cases hsm : l.length + m.length ≤ 140737488355328
  · exact run_append_own8 w base t ty e i ht hi hz hsize hby v l hown d x m hx hsm hbase
  · have h63 : l.length + m.length ≤ maxLen := by simp only [maxLen]; omega
    by_cases hm : 0 < m.length
    · obtain ⟨A, c, rfl, hmc, hcm, hcell⟩ := hx
      obtain ⟨o, rfl, _, hc⟩ := hcell hm
      have hnews : ∀ j u, (bs m)[j]? = some u → w.cell? ((⟨d, o, none⟩ : Addr).add j) = some u := fun j u hu => by obtain ⟨hj, rfl⟩ := bs_get hu; rw [add_plain']; exact hc j hj
      have hml : (bs m).length = m.length * i.size := by simp [bs, hsize]
      rcases hown.2 with ⟨rfl, hn⟩ | ⟨g, cap, cur, rfl, hbg, hg, hnc, hcmx, hcs, htake⟩
      · have : l = [] := List.eq_nil_of_length_eq_zero hn
        subst this
        have hr := run_append_nil (P := P) w t ty e i (.int .u8 0) ht hi hz ⟨d, o, none⟩ m.length c (bs m) hml hnews hm (by simp only [maxLen] at h63; simp at h63; omega) (by rw [hby]; simp at hb; omega)
        have hgr := grown_row (e := e) [] m 0 hbase h63 (Value.ownBlock (.slice none 0 0)) _ rfl
        simp only [List.length_nil, Nat.zero_add, List.nil_append] at hgr ⊢
        exact ⟨_, _, hr, hgr.1, hgr.2⟩
      · by_cases hroom : l.length + m.length ≤ cap
        · have hr := run_append_room (P := P) w t ty e i ht hi g l.length cap cur hg ⟨d, o, none⟩ m.length c (bs m) hml hnews (bs_one m) hroom (by rw [hsize, bs_length]; omega)
          refine ⟨_, _, hr, ⟨by simp [bs], .inr ⟨g, cap, _, by rw [List.length_append], hbg, setRow_heap w g cur _ e _ hg, by rw [List.length_append]; exact hroom, hcmx, ?_, ?_⟩⟩, ⟨rfl, rfl, rfl, by simp, fun k _ hk => setRow_other w g k _ (fun e => hk (by simp [Value.ownBlock, e]))⟩⟩
          · rw [hsize]
            simp only [List.size_toArray, List.length_append, List.length_take, List.length_drop, Array.length_toList, bs_length]
            omega
          · have ht' : cur.toList.take (l.length * i.size) = bs l := by rw [hsize]; exact htake
            rw [ht', ← bs_append, Nat.mul_one, ← bs_length (l ++ m)]
            exact List.take_left
        · have holds : ∀ j u, (bs l)[j]? = some u → w.cell? ((⟨g, 0, none⟩ : Addr).add j) = some u := World.ownsRow.cells hown (g := g) rfl
          have hr := run_append_grow (P := P) w t ty e i (.int .u8 0) ht hi hz ⟨g, 0, none⟩ l.length cap (bs l) (by simp [bs, hsize]) holds ⟨d, o, none⟩ m.length c (bs m) hml hnews (by omega) (by simp only [maxLen] at h63; omega) (by rw [hby, Nat.mul_one]; exact grow_fits (by omega) hb)
          have hgr := grown_row (e := e) l m cap hbase h63 (Value.ownBlock (.slice (some ⟨g, 0, none⟩) l.length cap)) _ rfl
          refine ⟨_, _, hr, ?_, ?_⟩
          · have := hgr.1
            rw [bs_append] at this
            simpa using this
          · have := hgr.2
            rw [bs_append] at this
            simpa using this
    · have : m = [] := List.eq_nil_of_length_eq_zero (by omega)
      subst this
      rw [List.append_nil]
      obtain ⟨A, c, rfl, hmc, hcm, hcell⟩ := hx
      refine ⟨v, w, ?_, hown, ⟨rfl, rfl, rfl, Nat.le_refl _, fun _ _ _ => rfl⟩⟩
      have h0 : ∀ a : Addr, (loadCells a 0).run P w = .ok #[] w := fun a => by simpa using run_loadCells_list (P := P) w a [] (by simp)
      rcases hown.2 with ⟨rfl, hn⟩ | ⟨g, cap, cur, rfl, _, _, hnc, _⟩
      · rcases A with _ | a <;> simp [Builtin.append_, run_underlying ht, sizeOf, typeInfo, hi, Builtin.lenOf, Builtin.firstCells, h0]
      · rcases A with _ | a <;> simp [Builtin.append_, run_underlying ht, sizeOf, typeInfo, hi, Builtin.lenOf, Builtin.firstCells, hnc, storeCells, h0]

/-- The same of a string's bytes. -/
theorem run_append_big8s {P : Program} (w : World) (base : Nat) (t u ty e : TypeId) (i : TypeInfo) (ht : P.underlying t = some (.slice e)) (hu : P.underlying u = some .string) (hi : P.info? e = some i) (hz : i.zero = some (.int .u8 0))
    (hsize : i.size = 1) (hby : i.bytes = 1) (v : Value) (l : List UInt8) (hown : Own e w base v l) (s : ByteArray)
    (hb : l.length + s.size ≤ 140746078289920) (hbase : base ≤ w.heap.size) :
    ∃ v' w', (Builtin.append_ #[t, u] ty #[v, .string s]).run P w = .ok v' w' ∧ Own e w' base v' (l ++ sb s) ∧ w.grownBy w' v.ownBlock := by
  by_cases hsm : l.length + s.size ≤ 140737488355328
  · obtain ⟨v', w', h1, h2, h3, _⟩ := Lib.run_append_own_string (P := P) w base t u ty e i ht hu hi hz hsize hby v l.length (bs l) hown s (by simp only [maxLen]; omega) hsm hbase
    refine ⟨v', w', h1, ?_, h3⟩
    unfold Own
    rw [bs_append, List.length_append, sb_length]
    exact h2
  · have h63 : l.length + s.size ≤ maxLen := by simp only [maxLen]; omega
    have hsl := sb_length s
    rcases hown.2 with ⟨rfl, hn⟩ | ⟨g, cap, cur, rfl, hbg, hg, hnc, hcmx, hcs, htake⟩
    · have : l = [] := List.eq_nil_of_length_eq_zero hn
      subst this
      have hr := run_append_nil_string (P := P) w t u ty e i (.int .u8 0) ht hu hi hz s (by simp at hsm; omega) (by simp only [maxLen] at h63; simp at h63; omega) (by rw [hby]; simp at hb; omega)
      have hgr := grown_row (e := e) [] (sb s) 0 hbase (by rw [hsl]; exact h63) (Value.ownBlock (.slice none 0 0)) _ rfl
      simp only [List.length_nil, Nat.zero_add, List.nil_append, hsl] at hgr ⊢
      have e1 : (s.data.map fun b => Value.int .u8 b.toNat) = (bs (sb s)).toArray := by
        apply Array.ext'
        simp [bs, sb, u8c, Function.comp_def]
      rw [e1] at hr
      exact ⟨_, _, hr, hgr.1, hgr.2⟩
    · by_cases hroom : l.length + s.size ≤ cap
      · have hr := Lib.run_append_room_string (P := P) w t u ty e i ht hu hi hsize g l.length cap cur hg s hroom (by omega)
        refine ⟨_, _, hr, ⟨by simp [bs], .inr ⟨g, cap, _, by rw [List.length_append, hsl], hbg, setRow_heap w g cur _ e _ hg, by rw [List.length_append, hsl]; exact hroom, hcmx, ?_, ?_⟩⟩, ⟨rfl, rfl, rfl, by simp, fun k _ hk => setRow_other w g k _ (fun e => hk (by simp [Value.ownBlock, e]))⟩⟩
        · simp only [List.size_toArray, List.length_append, List.length_take, List.length_drop, Array.length_toList, Lib.strCells_length]
          omega
        · have ht' : cur.toList.take l.length = bs l := by simpa using htake
          rw [ht', strCells_sb, ← bs_append, Nat.mul_one, ← bs_length (l ++ sb s)]
          exact List.take_left
      · have holds : ∀ j u, (bs l)[j]? = some u → w.cell? ((⟨g, 0, none⟩ : Addr).add j) = some u := World.ownsRow.cells hown (g := g) rfl
        have hr := Lib.run_append_grow_string (P := P) w t u ty e i (.int .u8 0) ht hu hi hz ⟨g, 0, none⟩ l.length cap (bs l) (by simp [bs, hsize]) holds s (by omega) (by simp only [maxLen] at h63; omega) (by rw [hby, Nat.mul_one]; exact grow_fits (by omega) hb)
        have hgr := grown_row (e := e) l (sb s) cap hbase (by rw [hsl]; exact h63) (Value.ownBlock (.slice (some ⟨g, 0, none⟩) l.length cap)) _ rfl
        rw [hsl, bs_append] at hgr
        rw [strCells_sb] at hr
        refine ⟨_, _, hr, ?_, ?_⟩
        · simpa using hgr.1
        · simpa using hgr.2

theorem wpList_big8 {P : Program} (w : World) {ops : Array Oper} {rest : List Oper} {o : Oper} {a : Act} {Q : Exit → Act → World → Prop} (hgd : o.guard = none) (s x : Operand) (t : TypeId)
    (ho : o.op = .call { callee := .builtin .append, args := #[s, x], argTypes := #[t, t] })
    (base : Nat) (e : TypeId) (ht : P.underlying t = some (.slice e)) (hi : (P.info? e).map (fun i => (i.zero, i.size, i.bytes)) = some (some (.int .u8 0), 1, 1))
    (v : Value) (l : List UInt8) (hs : a.eval s = v) (hown : Own e w base v l) (d : Nat) (y : Value) (m : List UInt8) (hx : a.eval x = y) (hm : Shows w d y m)
    (hb : l.length + m.length ≤ 140746078289920) (hbase : base ≤ w.heap.size)
    (h : ∀ v' w', Own e w' base v' (l ++ m) → w.grownBy w' v.ownBlock → wpList P ops Q rest (a.put o.dst v') w') : wpList P ops Q (o :: rest) a w := by
  obtain ⟨i, hi0, hz, hs1, hb1⟩ := info_parts hi
  obtain ⟨v', w', hr, h2, h3⟩ := run_append_big8 (P := P) w base t o.type e i ht hi0 hz hs1 hb1 v l hown d y m hm hb hbase
  refine wpList_plain hgd fun K hK => ?_
  unfold Oper.wp execOp
  simp only [ho, resolve, invoke, builtin, Sem.run_bind, Sem.run_pure, Result.andThen_ok, List.map_toArray, List.map_cons, List.map_nil, hs, hx, hr]
  exact hK _ _ (h v' w' h2 h3)

theorem wpList_big8s {P : Program} (w : World) {ops : Array Oper} {rest : List Oper} {o : Oper} {a : Act} {Q : Exit → Act → World → Prop} (hgd : o.guard = none) (sl x : Operand) (t u : TypeId)
    (ho : o.op = .call { callee := .builtin .append, args := #[sl, x], argTypes := #[t, u] })
    (base : Nat) (e : TypeId) (ht : P.underlying t = some (.slice e)) (hu : P.underlying u = some .string) (hi : (P.info? e).map (fun i => (i.zero, i.size, i.bytes)) = some (some (.int .u8 0), 1, 1))
    (v : Value) (l : List UInt8) (hs : a.eval sl = v) (hown : Own e w base v l) (s : ByteArray) (hx : a.eval x = .string s)
    (hb : l.length + s.size ≤ 140746078289920) (hbase : base ≤ w.heap.size)
    (h : ∀ v' w', Own e w' base v' (l ++ sb s) → w.grownBy w' v.ownBlock → wpList P ops Q rest (a.put o.dst v') w') : wpList P ops Q (o :: rest) a w := by
  obtain ⟨i, hi0, hz, hs1, hb1⟩ := info_parts hi
  obtain ⟨v', w', hr, h2, h3⟩ := run_append_big8s (P := P) w base t u o.type e i ht hu hi0 hz hs1 hb1 v l hown s hb hbase
  refine wpList_plain hgd fun K hK => ?_
  unfold Oper.wp execOp
  simp only [ho, resolve, invoke, builtin, Sem.run_bind, Sem.run_pure, Result.andThen_ok, List.map_toArray, List.map_cons, List.map_nil, hs, hx, hr]
  exact hK _ _ (h v' w' h2 h3)

theorem Own.lit {w : World} {base : Nat} {e : TypeId} {cs : Array Value} (l : List UInt8) (h : cs = (bs l).toArray) (hl : l.length ≤ maxLen) (hb : base ≤ w.heap.size) :
    Own e (w.alloc (.cells cs e)) base (.slice (some ⟨w.heap.size, 0, none⟩) l.length l.length) l := by
  subst h
  have := World.ownsRow_lit (w := w) (e := e) (base := base) (size := 1) (bs l).toArray l.length hb hl (by simp [bs])
  simpa [Own] using this

end Go.Proofs.Ytknfiiacalfelaa
