/-
  Texts, together: Gen, Big.
  Conditions: none but sizes.
-/
import Derived.Test.YtpmafabphlejeaaGreatMemZ
/-
  Words for memory, of no program: slices whose elements take some cells each: what it means that one shows a list, or is a row of the call's own; how such facts last; append.
  Conditions: none.
-/
namespace Go.Proofs.YtpmafabphlejeaaGreat
open Go.RowKit
set_option linter.unusedVariables false
set_option linter.unusedSimpArgs false

/-- How an element lies in memory. -/
structure Code (α : Type) where
  enc : α → List Value
  sz : Nat
  len : ∀ x, (enc x).length = sz
  one : ∀ x, ∀ u ∈ enc x, u.oneCell' = true
  pos : 0 < sz

section
variable {α : Type} (C : Code α)
/-- All cells, one behind the other. -/
def Code.all (l : List α) : List Value := l.flatMap C.enc
theorem Code.all_nil : C.all [] = [] := rfl
theorem Code.all_cons (x : α) (l : List α) : C.all (x :: l) = C.enc x ++ C.all l := by simp [Code.all]
theorem Code.all_append (a b : List α) : C.all (a ++ b) = C.all a ++ C.all b := by simp [Code.all]
theorem Code.all_length : ∀ l : List α, (C.all l).length = l.length * C.sz
  | [] => by simp [Code.all]
  | x :: l => by rw [C.all_cons, List.length_append, C.len, all_length l, List.length_cons, Nat.add_mul]; omega
theorem Code.all_one (l : List α) : ∀ u ∈ C.all l, u.oneCell' = true := by
  intro u hu
  obtain ⟨x, _, hx⟩ := List.mem_flatMap.1 hu
  exact C.one x u hx
theorem Code.all_get : ∀ (l : List α) (j k : Nat) (h : j < l.length), k < C.sz → (C.all l)[j * C.sz + k]? = (C.enc l[j])[k]?
  | x :: l, 0, k, _, hk => by
    rw [C.all_cons, Nat.zero_mul, Nat.zero_add, List.getElem?_append_left (by rw [C.len]; exact hk)]
    rfl
  | x :: l, j + 1, k, h, hk => by
    rw [C.all_cons, List.getElem?_append_right (by rw [C.len, Nat.add_mul]; omega), C.len, show (j + 1) * C.sz + k - C.sz = j * C.sz + k by rw [Nat.add_mul]; omega, all_get l j k (by simpa using h) hk]
    rfl
theorem Code.all_at (l : List α) {i : Nat} {u : Value} (h : (C.all l)[i]? = some u) : ∃ (j k : Nat) (hj : j < l.length), i = j * C.sz + k ∧ k < C.sz ∧ (C.enc l[j])[k]? = some u := by
  have hi : i < l.length * C.sz := by rw [← C.all_length]; exact (List.getElem?_eq_some_iff.1 h).1
  have hp := C.pos
  have hj : i / C.sz < l.length := Nat.div_lt_of_lt_mul (by rw [Nat.mul_comm]; exact hi)
  have e : i = i / C.sz * C.sz + i % C.sz := by have := Nat.div_add_mod i C.sz; rw [Nat.mul_comm] at this; omega
  refine ⟨i / C.sz, i % C.sz, hj, e, Nat.mod_lt _ hp, ?_⟩
  rw [← C.all_get l _ _ hj (Nat.mod_lt _ hp), ← e]
  exact h
theorem Code.all_set : ∀ (l : List α) (j k : Nat) (y : α) (u : Value) (h : j < l.length), k < C.sz → C.enc y = (C.enc l[j]).set k u → C.all (l.set j y) = (C.all l).set (j * C.sz + k) u
  | x :: l, 0, k, y, u, _, hk, hy => by
    simp only [List.getElem_cons_zero] at hy
    rw [List.set_cons_zero, C.all_cons, C.all_cons, Nat.zero_mul, Nat.zero_add, List.set_append_left _ _ (by rw [C.len]; exact hk), hy]
  | x :: l, j + 1, k, y, u, h, hk, hy => by
    simp only [List.getElem_cons_succ] at hy
    rw [List.set_cons_succ, C.all_cons, C.all_cons, List.set_append_right _ _ (by rw [C.len, Nat.add_mul]; omega), C.len, show (j + 1) * C.sz + k - C.sz = j * C.sz + k by rw [Nat.add_mul]; omega, all_set l j k y u (by simpa using h) hk hy]

/-- The slice value v shows the list l in w, from block d. -/
def ShowsG (w : World) (d : Nat) (v : Value) (l : List α) : Prop :=
  ∃ (A : Option Addr) (c : Nat), v = .slice A l.length c ∧ l.length ≤ c ∧ c ≤ maxLen ∧
    (0 < l.length → ∃ o, A = some ⟨d, o, none⟩ ∧ d < w.heap.size ∧ ∀ j (h : j < l.length) k, k < C.sz → w.cell? ⟨d, o + (j * C.sz + k), none⟩ = (C.enc l[j])[k]?)
/-- A row of the call's own, from block 'base' on. -/
def OwnG (e : TypeId) (w : World) (base : Nat) (v : Value) (l : List α) : Prop := w.ownsRow base e C.sz v l.length (C.all l)
end

section
variable {α : Type} {C : Code α} {w w' : World} {d base : Nat} {v : Value} {l : List α} {e : TypeId}
theorem ShowsG.keep (h : ShowsG C w d v l) (hs : w.heap.size ≤ w'.heap.size) (hk : 0 < l.length → w'.heap[d]? = w.heap[d]?) : ShowsG C w' d v l := by
  obtain ⟨A, c, e1, e2, e3, e4⟩ := h
  refine ⟨A, c, e1, e2, e3, fun hp => ?_⟩
  obtain ⟨o, f1, f2, f3⟩ := e4 hp
  exact ⟨o, f1, by omega, fun j hj k hkk => (World.cell?_of_block (w := w) (hk hp)).trans (f3 j hj k hkk)⟩
theorem ShowsG.below {B : Nat} (h : ShowsG C w d v l) (hb : Below B w w') (hd : d < B) : ShowsG C w' d v l := h.keep hb.size fun _ => hb.block d hd
theorem ShowsG.drewN (h : ShowsG C w d v l) (n : Nat) : ShowsG C (w.drewN n) d v l := h
theorem ShowsG.drew (h : ShowsG C w d v l) : ShowsG C w.drew d v l := h
theorem ShowsG.lt (h : ShowsG C w d v l) (hp : 0 < l.length) : d < w.heap.size := by
  obtain ⟨A, c, e1, e2, e3, e4⟩ := h
  exact (e4 hp).choose_spec.2.1
theorem ShowsG.below' {w0 : World} {B : Nat} (h : ShowsG C w0 d v l) (hb : Below B w0 w') (hB : w0.heap.size ≤ B) : ShowsG C w' d v l := h.keep hb.size fun hp => hb.block d (Nat.lt_of_lt_of_le (h.lt hp) hB)
theorem ShowsG.at_ {A : Option Addr} {n c : Nat} (h : ShowsG C w d (.slice A n c) l) (hp : 0 < l.length) : ∃ o, A = some ⟨d, o, none⟩ ∧ d < w.heap.size ∧ ∀ j (h : j < l.length) k, k < C.sz → w.cell? ⟨d, o + (j * C.sz + k), none⟩ = (C.enc l[j])[k]? := by
  obtain ⟨A', c', e, h2, h3, h4⟩ := h
  cases e
  exact h4 hp
theorem ShowsG.lens {A : Option Addr} {n c : Nat} (h : ShowsG C w d (.slice A n c) l) : l.length = n ∧ n ≤ c ∧ c ≤ maxLen := by
  obtain ⟨A', c', e, h2, h3, h4⟩ := h
  cases e
  exact ⟨rfl, h2, h3⟩
theorem ShowsG.form (h : ShowsG C w d v l) : ∃ A c, v = .slice A l.length c ∧ l.length ≤ c ∧ c ≤ maxLen := by
  obtain ⟨A, c, e, h2, h3, _⟩ := h
  exact ⟨A, c, e, h2, h3⟩
theorem ShowsG.head' {A : Option Addr} {n c k c' : Nat} (h : ShowsG C w d (.slice A n c) l) (hk : k ≤ l.length) (hc : k ≤ c') (hc' : c' ≤ c) : ShowsG C w d (.slice A k c') (l.take k) := by
  obtain ⟨A', c2, e, h2, h3, h4⟩ := h
  cases e
  refine ⟨A, c', by simp [Nat.min_eq_left hk], by simp; omega, by omega, fun hp => ?_⟩
  simp at hp
  obtain ⟨o, h5, h6, h7⟩ := h4 (by omega)
  exact ⟨o, h5, h6, fun j hj q hq => by rw [h7 j (by simp at hj; omega) q hq]; simp⟩
theorem ShowsG.head {A : Option Addr} {n c k : Nat} (h : ShowsG C w d (.slice A n c) l) (hk : k ≤ l.length) : ShowsG C w d (.slice A k c) (l.take k) := by
  obtain ⟨h1, h2, _⟩ := h.lens
  exact h.head' hk (by omega) (Nat.le_refl _)
theorem ShowsG.tail' {A : Option Addr} {n c k c' : Nat} (h : ShowsG C w d (.slice A n c) l) (hk : k ≤ l.length) (A' : Option Addr) (hA : k < l.length → A' = A.map (fun x => x.add (k * C.sz))) (hc1 : n - k ≤ c') (hc2 : c' ≤ maxLen) :
    ShowsG C w d (.slice A' (n - k) c') (l.drop k) := by
  obtain ⟨A2, c2, e, h2, h3, h4⟩ := h
  cases e
  refine ⟨_, c', by rw [List.length_drop], by simp; omega, hc2, fun hp => ?_⟩
  simp at hp
  obtain ⟨o, h5, h6, h7⟩ := h4 (by omega)
  have h8 := hA (by omega)
  subst h5
  refine ⟨o + k * C.sz, by rw [h8]; simp [add_plain'], h6, fun j hj q hq => ?_⟩
  have := h7 (k + j) (by simp at hj; omega) q hq
  rw [show o + k * C.sz + (j * C.sz + q) = o + ((k + j) * C.sz + q) by rw [Nat.add_mul]; omega, this]
  simp

theorem OwnG.nil_ (C : Code α) (e : TypeId) (w : World) (base : Nat) : OwnG C e w base (.slice none 0 0) [] := World.ownsRow_nil w base e C.sz
theorem ShowsG.nil_ (C : Code α) (w : World) (d : Nat) : ShowsG C w d (.slice none 0 0) [] := ⟨none, 0, rfl, Nat.le_refl _, by simp [maxLen], fun h => absurd h (by simp)⟩
theorem OwnG.shows (h : OwnG C e w base v l) : ∃ g, (0 < l.length → base ≤ g) ∧ ShowsG C w g v l := by
  rcases h.2 with ⟨rfl, hn⟩ | ⟨g, cap, cur, rfl, hb, hg, hnc, hcm, hcs, ht⟩
  · have : l = [] := List.eq_nil_of_length_eq_zero hn
    subst this
    exact ⟨base, fun _ => Nat.le_refl _, ShowsG.nil_ _ _ _⟩
  · refine ⟨g, fun _ => hb, some ⟨g, 0, none⟩, cap, rfl, hnc, hcm, fun hp => ⟨0, rfl, (Array.getElem?_eq_some_iff.1 hg).1, fun j hj k hk => ?_⟩⟩
    rw [cell_of_row w g (0 + (j * C.sz + k)) cur e (0, 0) hg, ← C.all_get l j k hj hk, ← ht, List.getElem?_take, if_pos]
    · simp
    · have : (j + 1) * C.sz ≤ l.length * C.sz := Nat.mul_le_mul_right _ hj
      rw [Nat.add_mul] at this
      omega
theorem OwnG.keep (h : OwnG C e w base v l) (hk : ∀ g, v.ownBlock = some g → w'.heap[g]? = w.heap[g]?) : OwnG C e w' base v l := by
  refine ⟨h.1, ?_⟩
  rcases h.2 with hn | ⟨g, cap, cur, rfl, hb, hg, r⟩
  · exact .inl hn
  · exact .inr ⟨g, cap, cur, rfl, hb, (hk g rfl).trans hg, r⟩
theorem OwnG.kept {row : Option Nat} (h : OwnG C e w base v l) (hg : w.grownBy w' row) (hne : v.ownBlock = none ∨ v.ownBlock ≠ row) : OwnG C e w' base v l := World.ownsRow.kept h hg hne
theorem OwnG.mono {b' : Nat} (h : OwnG C e w base v l) (hb : b' ≤ base) : OwnG C e w b' v l := by
  refine ⟨h.1, ?_⟩
  rcases h.2 with hn | ⟨g, cap, cur, rfl, hb', r⟩
  · exact .inl hn
  · exact .inr ⟨g, cap, cur, rfl, by omega, r⟩
theorem OwnG.block (h : OwnG C e w base v l) : ∀ g, v.ownBlock = some g → base ≤ g ∧ g < w.heap.size := World.ownsRow.lt h
theorem OwnG.below {B : Nat} (h : OwnG C e w base v l) (hb : Below B w w') (hB : w.heap.size ≤ B) : OwnG C e w' base v l := h.keep fun g hg => hb.block g (Nat.lt_of_lt_of_le (h.block g hg).2 hB)
theorem OwnG.form (h : OwnG C e w base v l) : ∃ A c, v = .slice A l.length c ∧ l.length ≤ c ∧ c ≤ maxLen := by
  rcases h.2 with ⟨rfl, hn⟩ | ⟨g, cap, cur, rfl, hb, hg, hnc, hcm, _⟩
  · have : l = [] := List.eq_nil_of_length_eq_zero hn
    subst this
    exact ⟨none, 0, rfl, Nat.le_refl _, by simp [maxLen]⟩
  · exact ⟨_, _, rfl, hnc, hcm⟩
theorem OwnG.len_ {n c : Nat} {A : Option Addr} (h : OwnG C e w base (.slice A n c) l) : l.length = n ∧ n ≤ c ∧ c ≤ maxLen := by
  obtain ⟨A', c', h1, h2, h3⟩ := h.form
  cases h1
  exact ⟨rfl, h2, h3⟩
theorem OwnG.alloc_ (h : OwnG C e w base v l) (o : Obj) : OwnG C e (w.alloc o) base v l := World.ownsRow.alloc h o
theorem OwnG.at_ {n c : Nat} {A : Option Addr} (h : OwnG C e w base (.slice A n c) l) (hp : 0 < n) :
    ∃ b, A = some ⟨b, 0, none⟩ ∧ base ≤ b ∧ b < w.heap.size ∧ (∀ j, w.frozen? ⟨b, j, none⟩ = false) ∧ ∀ j (hj : j < l.length) k, k < C.sz → w.cell? ⟨b, j * C.sz + k, none⟩ = (C.enc l[j])[k]? := by
  obtain ⟨h1, _⟩ := h.len_
  rcases h.2 with ⟨h1, h2⟩ | ⟨b, cap, cur, h1, hb, hg, _⟩
  · cases h1; omega
  · cases h1
    refine ⟨b, rfl, hb, (Array.getElem?_eq_some_iff.1 hg).1, fun j => frozen_of_row w b j cur e hg, fun j hj k hk => ?_⟩
    have hlt : j * C.sz + k < l.length * C.sz := by
      have : (j + 1) * C.sz ≤ l.length * C.sz := Nat.mul_le_mul_right _ hj
      rw [Nat.add_mul] at this
      omega
    rw [World.ownsRow.cellAt h _ hlt]
    exact C.all_get l j k hj hk
theorem OwnG.set_ {b n c : Nat} (h : OwnG C e w base (.slice (some ⟨b, 0, none⟩) n c) l) (j k : Nat) (hj : j < l.length) (hk : k < C.sz) (y : α) (u : Value) (hy : C.enc y = (C.enc l[j]).set k u) :
    OwnG C e (w.setCell ⟨b, j * C.sz + k, none⟩ u) base (.slice (some ⟨b, 0, none⟩) n c) (l.set j y) := by
  obtain ⟨hn, _⟩ := h.len_
  subst hn
  have := (World.ownsRow.stored h (j * C.sz + k) u).1
  unfold OwnG
  rw [List.length_set, C.all_set l j k y u hj hk hy]
  exact this
/-- A new block of literal elements. -/
theorem OwnG.lit {cs : Array Value} (l : List α) (h : cs = (C.all l).toArray) (hl : l.length ≤ maxLen) (hb : base ≤ w.heap.size) :
    OwnG C e (w.alloc (.cells cs e)) base (.slice (some ⟨w.heap.size, 0, none⟩) l.length l.length) l := by
  subst h
  refine ⟨C.all_length l, .inr ⟨w.heap.size, _, _, rfl, hb, heap_alloc_new w _, Nat.le_refl _, hl, ?_, ?_⟩⟩
  · simp [C.all_length]
  · rw [← C.all_length]
    simp
theorem ShowsG.lit {cs : Array Value} (l : List α) (h : cs = (C.all l).toArray) (hl : l.length ≤ maxLen) :
    ShowsG C (w.alloc (.cells cs e)) w.heap.size (.slice (some ⟨w.heap.size, 0, none⟩) l.length l.length) l := by
  subst h
  refine ⟨_, _, rfl, Nat.le_refl _, hl, fun hp => ⟨0, rfl, by simp, fun j hj k hk => ?_⟩⟩
  rw [cell_of_row _ _ (0 + (j * C.sz + k)) _ e (0, 0) (heap_alloc_new w _), ← C.all_get l j k hj hk]
  simp

/-- 'append' of elements that are shown onto a row of the call's own. -/
theorem run_appendG {P : Program} (t ty : TypeId) (i : TypeInfo) (z : Value) (bytes : Nat) (ht : P.underlying t = some (.slice e)) (hi : P.info? e = some i) (hz : i.zero = some z)
    (hsize : i.size = C.sz) (hby : i.bytes = bytes) (hzs : z.cells.size = C.sz) (hown : OwnG C e w base v l) (x : Value) (m : List α) (hx : ShowsG C w d x m)
    (hb : (l.length + m.length) * bytes ≤ 140737488355328) (hb63 : l.length + m.length ≤ maxLen) (hbase : base ≤ w.heap.size) :
    ∃ v' w', (Builtin.append_ #[t, t] ty #[v, x]).run P w = .ok v' w' ∧ OwnG C e w' base v' (l ++ m) ∧ w.grownBy w' v.ownBlock := by
  obtain ⟨A, c, rfl, hmc, hcm, hcell⟩ := hx
  by_cases hm : 0 < m.length
  · obtain ⟨o, rfl, _, hc⟩ := hcell hm
    obtain ⟨v', w', h1, h2, h3, _⟩ := run_append_own (P := P) w base t ty e i z C.sz bytes ht hi hz hsize hby hzs C.pos v l.length (C.all l) hown ⟨d, o, none⟩ m.length c (C.all m) (C.all_length m)
      (fun j u hu => by obtain ⟨q, k, hq, rfl, hk, hu'⟩ := C.all_at m hu; rw [add_plain', hc q hq k hk]; exact hu') (C.all_one m) hb63 hb hbase
    refine ⟨v', w', h1, ?_, h3⟩
    unfold OwnG
    rw [C.all_append, List.length_append]
    exact h2
  · have : m = [] := List.eq_nil_of_length_eq_zero (by omega)
    subst this
    rw [List.append_nil]
    refine ⟨v, w, ?_, hown, ⟨rfl, rfl, rfl, Nat.le_refl _, fun _ _ _ => rfl⟩⟩
    have h0 : ∀ a : Addr, (loadCells a 0).run P w = .ok #[] w := fun a => by simpa using run_loadCells_list (P := P) w a [] (by simp)
    rcases hown.2 with ⟨rfl, hn⟩ | ⟨g, cap, cur, rfl, _, _, hnc, _⟩
    · rcases A with _ | a <;> simp [Builtin.append_, run_underlying ht, sizeOf, typeInfo, hi, Builtin.lenOf, Builtin.firstCells, h0]
    · rcases A with _ | a <;> simp [Builtin.append_, run_underlying ht, sizeOf, typeInfo, hi, Builtin.lenOf, Builtin.firstCells, hnc, storeCells, h0]

/-- The same at the operation, for the walk. -/
theorem wpList_appendG (C : Code α) {P : Program} (w : World) {ops : Array Oper} {rest : List Oper} {o : Oper} {a : Act} {Q : Exit → Act → World → Prop} (hgd : o.guard = none) (s x : Operand) (t : TypeId)
    (ho : o.op = .call { callee := .builtin .append, args := #[s, x], argTypes := #[t, t] })
    (base : Nat) (e : TypeId) (z : Value) (bytes : Nat) (ht : P.underlying t = some (.slice e)) (hi : (P.info? e).map (fun i => (i.zero, i.size, i.bytes)) = some (some z, C.sz, bytes)) (hzs : z.cells.size = C.sz)
    (v : Value) (l : List α) (hs : a.eval s = v) (hown : OwnG C e w base v l) (d : Nat) (y : Value) (m : List α) (hx : a.eval x = y) (hm : ShowsG C w d y m)
    (hb : (l.length + m.length) * bytes ≤ 140737488355328) (hb63 : l.length + m.length ≤ 140737488355328) (hbase : base ≤ w.heap.size)
    (h : ∀ v' w', OwnG C e w' base v' (l ++ m) → w.grownBy w' v.ownBlock → wpList P ops Q rest (a.put o.dst v') w') : wpList P ops Q (o :: rest) a w := by
  obtain ⟨i, hi0, hz, hs1, hb1⟩ := info_parts hi
  obtain ⟨v', w', hr, h2, h3⟩ := run_appendG (P := P) (C := C) t o.type i z bytes ht hi0 hz hs1 hb1 hzs hown y m hm hb (by simp only [maxLen]; omega) hbase
  refine wpList_plain hgd fun K hK => ?_
  unfold Oper.wp execOp
  simp only [ho, resolve, invoke, builtin, Sem.run_bind, Sem.run_pure, Result.andThen_ok, List.map_toArray, List.map_cons, List.map_nil, hs, hx, hr]
  exact hK _ _ (h v' w' h2 h3)

/-- The same at a step of a region that draws its order: for 'go_region_law'. -/
theorem step_appendG (C : Code α) {P : Program} (w : World) {ops : Array Oper} {o : Oper} {a : Act} {K : Act → World → Prop} {Q : Exit → Act → World → Prop} {E : Prop} (hgd : o.guard = none) (s x : Operand) (t : TypeId)
    (ho : o.op = .call { callee := .builtin .append, args := #[s, x], argTypes := #[t, t] })
    (base : Nat) (e : TypeId) (z : Value) (bytes : Nat) (ht : P.underlying t = some (.slice e)) (hi : (P.info? e).map (fun i => (i.zero, i.size, i.bytes)) = some (some z, C.sz, bytes)) (hzs : z.cells.size = C.sz)
    (v : Value) (l : List α) (hs : a.eval s = v) (hown : OwnG C e w base v l) (d : Nat) (y : Value) (m : List α) (hx : a.eval x = y) (hm : ShowsG C w d y m)
    (hb : (l.length + m.length) * bytes ≤ 140737488355328) (hb63 : l.length + m.length ≤ 140737488355328) (hbase : base ≤ w.heap.size)
    (h : ∀ v' w', OwnG C e w' base v' (l ++ m) → w.grownBy w' v.ownBlock → K (a.put o.dst v') w') :
    if Region.wanted o (yielded ops a.tmps) = true then Oper.wp P o a w K Q else E := by
  have hw : Region.wanted o (yielded ops a.tmps) = true := by simp [Region.wanted, hgd]
  rw [if_pos hw]
  obtain ⟨i, hi0, hz, hs1, hb1⟩ := info_parts hi
  obtain ⟨v', w', hr, h2, h3⟩ := run_appendG (P := P) (C := C) t o.type i z bytes ht hi0 hz hs1 hb1 hzs hown y m hm hb (by simp only [maxLen]; omega) hbase
  unfold Oper.wp execOp
  simp only [ho, resolve, invoke, builtin, Sem.run_bind, Sem.run_pure, Result.andThen_ok, List.map_toArray, List.map_cons, List.map_nil, hs, hx, hr]
  exact h v' w' h2 h3
end

/-- Numbers of 32 and of 64 bits, one cell each. -/
def natC (k : IntKind) : Code Nat := { enc := fun n => [.int k n], sz := 1, len := fun _ => rfl, one := fun x u hu => by simp at hu; subst hu; rfl, pos := by omega }
/-- Pairs of numbers, two cells each. -/
def pairC (k : IntKind) : Code (Nat × Nat) := { enc := fun s => [.int k s.1, .int k s.2], sz := 2, len := fun _ => rfl, one := fun x u hu => by simp at hu; rcases hu with rfl | rfl <;> rfl, pos := by omega }

end Go.Proofs.YtpmafabphlejeaaGreat
/-
  Appends to rows of the call's own, for texts and slices that are together a little more than 2^47 bytes.
  Conditions: none.
-/
namespace Go.Proofs.YtpmafabphlejeaaGreat
open Go.RowKit
set_option linter.unusedVariables false
set_option linter.unusedSimpArgs false

theorem grow_fits {need old : Nat} (h : old < need) (hb : need ≤ 140746078289920) : Builtin.nextslicecap need old ≤ 281474976710656 := by
  unfold Builtin.nextslicecap
  split
  · omega
  · split
    · omega
    · rw [growBy_four]
      repeat' split
      all_goals omega

/-- A new row behind a growth. -/
theorem grown_row {w : World} {base : Nat} {e : TypeId} (l m : List UInt8) (old : Nat) (hbase : base ≤ w.heap.size) (hm : l.length + m.length ≤ maxLen) (row : Option Nat) (cs : Array Value) (hcs : cs = (bs (l ++ m)).toArray ++ Builtin.zeroCells (Value.int .u8 0).cells (grownCap w (l.length + m.length) old e - (l.length + m.length))) :
    Own e (w.drew.alloc (.cells cs e)) base (.slice (some ⟨w.heap.size, 0, none⟩) (l.length + m.length) (grownCap w (l.length + m.length) old e)) (l ++ m) ∧ w.grownBy (w.drew.alloc (.cells cs e)) row := by
  subst hcs
  have hge := grownCap_ge w (l.length + m.length) old e
  have hcm := grownCap_le_maxLen w (l.length + m.length) old e hm
  have hz1 : (Value.int IntKind.u8 0).cells.size = 1 := rfl
  refine ⟨⟨by simp [bs], .inr ⟨w.heap.size, _, _, by rw [List.length_append], hbase, heap_alloc_new w.drew _, by rw [List.length_append]; exact hge, hcm, ?_, ?_⟩⟩, ⟨rfl, rfl, rfl, by simp, fun k hk _ => Below.heap_alloc w.drew _ k hk⟩⟩
  · simp only [Array.size_append, List.size_toArray, size_zeroCells, hz1, bs_length, List.length_append]
    omega
  · simp only [Array.toList_append, Nat.mul_one]
    rw [← bs_length (l ++ m)]
    exact List.take_left

/-- 'append' of shown bytes, together at most 2^47 + 2^33. -/
theorem run_append_big8 {P : Program} (w : World) (base : Nat) (t ty e : TypeId) (i : TypeInfo) (ht : P.underlying t = some (.slice e)) (hi : P.info? e = some i) (hz : i.zero = some (.int .u8 0))
    (hsize : i.size = 1) (hby : i.bytes = 1) (v : Value) (l : List UInt8) (hown : Own e w base v l) (d : Nat) (x : Value) (m : List UInt8) (hx : Shows w d x m)
    (hb : l.length + m.length ≤ 140746078289920) (hbase : base ≤ w.heap.size) :
    ∃ v' w', (Builtin.append_ #[t, t] ty #[v, x]).run P w = .ok v' w' ∧ Own e w' base v' (l ++ m) ∧ w.grownBy w' v.ownBlock := by
  by_cases hsm : l.length + m.length ≤ 140737488355328
  · exact run_append_own8 w base t ty e i ht hi hz hsize hby v l hown d x m hx hsm hbase
  · have h63 : l.length + m.length ≤ maxLen := by simp only [maxLen]; omega
    by_cases hm : 0 < m.length
    · obtain ⟨A, c, rfl, hmc, hcm, hcell⟩ := hx
      obtain ⟨o, rfl, _, hc⟩ := hcell hm
      have hnews : ∀ j u, (bs m)[j]? = some u → w.cell? ((⟨d, o, none⟩ : Addr).add j) = some u := fun j u hu => by obtain ⟨hj, rfl⟩ := bs_get hu; rw [add_plain']; exact hc j hj
      have hml : (bs m).length = m.length * i.size := by simp [bs, hsize]
      rcases hown.2 with ⟨rfl, hn⟩ | ⟨g, cap, cur, rfl, hbg, hg, hnc, hcmx, hcs, htake⟩
      · have : l = [] := List.eq_nil_of_length_eq_zero hn
        subst this
        have hr := run_append_nil (P := P) w t ty e i (.int .u8 0) ht hi hz ⟨d, o, none⟩ m.length c (bs m) hml hnews hm (by simp only [maxLen] at h63; simp at h63; omega) (by rw [hby]; simp at hb; omega)
        have hgr := grown_row (e := e) [] m 0 hbase h63 (Value.ownBlock (.slice none 0 0)) _ rfl
        simp only [List.length_nil, Nat.zero_add, List.nil_append] at hgr ⊢
        exact ⟨_, _, hr, hgr.1, hgr.2⟩
      · by_cases hroom : l.length + m.length ≤ cap
        · have hr := run_append_room (P := P) w t ty e i ht hi g l.length cap cur hg ⟨d, o, none⟩ m.length c (bs m) hml hnews (bs_one m) hroom (by rw [hsize, bs_length]; omega)
          refine ⟨_, _, hr, ⟨by simp [bs], .inr ⟨g, cap, _, by rw [List.length_append], hbg, setRow_heap w g cur _ e _ hg, by rw [List.length_append]; exact hroom, hcmx, ?_, ?_⟩⟩, ⟨rfl, rfl, rfl, by simp, fun k _ hk => setRow_other w g k _ (fun e => hk (by simp [Value.ownBlock, e]))⟩⟩
          · rw [hsize]
            simp only [List.size_toArray, List.length_append, List.length_take, List.length_drop, Array.length_toList, bs_length]
            omega
          · have ht' : cur.toList.take (l.length * i.size) = bs l := by rw [hsize]; exact htake
            rw [ht', ← bs_append, Nat.mul_one, ← bs_length (l ++ m)]
            exact List.take_left
        · have holds : ∀ j u, (bs l)[j]? = some u → w.cell? ((⟨g, 0, none⟩ : Addr).add j) = some u := World.ownsRow.cells hown (g := g) rfl
          have hr := run_append_grow (P := P) w t ty e i (.int .u8 0) ht hi hz ⟨g, 0, none⟩ l.length cap (bs l) (by simp [bs, hsize]) holds ⟨d, o, none⟩ m.length c (bs m) hml hnews (by omega) (by simp only [maxLen] at h63; omega) (by rw [hby, Nat.mul_one]; exact grow_fits (by omega) hb)
          have hgr := grown_row (e := e) l m cap hbase h63 (Value.ownBlock (.slice (some ⟨g, 0, none⟩) l.length cap)) _ rfl
          refine ⟨_, _, hr, ?_, ?_⟩
          · have := hgr.1
            rw [bs_append] at this
            simpa using this
          · have := hgr.2
            rw [bs_append] at this
            simpa using this
    · have : m = [] := List.eq_nil_of_length_eq_zero (by omega)
      subst this
      rw [List.append_nil]
      obtain ⟨A, c, rfl, hmc, hcm, hcell⟩ := hx
      refine ⟨v, w, ?_, hown, ⟨rfl, rfl, rfl, Nat.le_refl _, fun _ _ _ => rfl⟩⟩
      have h0 : ∀ a : Addr, (loadCells a 0).run P w = .ok #[] w := fun a => by simpa using run_loadCells_list (P := P) w a [] (by simp)
      rcases hown.2 with ⟨rfl, hn⟩ | ⟨g, cap, cur, rfl, _, _, hnc, _⟩
      · rcases A with _ | a <;> simp [Builtin.append_, run_underlying ht, sizeOf, typeInfo, hi, Builtin.lenOf, Builtin.firstCells, h0]
      · rcases A with _ | a <;> simp [Builtin.append_, run_underlying ht, sizeOf, typeInfo, hi, Builtin.lenOf, Builtin.firstCells, hnc, storeCells, h0]

/-- The same of a string's bytes. -/
theorem run_append_big8s {P : Program} (w : World) (base : Nat) (t u ty e : TypeId) (i : TypeInfo) (ht : P.underlying t = some (.slice e)) (hu : P.underlying u = some .string) (hi : P.info? e = some i) (hz : i.zero = some (.int .u8 0))
    (hsize : i.size = 1) (hby : i.bytes = 1) (v : Value) (l : List UInt8) (hown : Own e w base v l) (s : ByteArray)
    (hb : l.length + s.size ≤ 140746078289920) (hbase : base ≤ w.heap.size) :
    ∃ v' w', (Builtin.append_ #[t, u] ty #[v, .string s]).run P w = .ok v' w' ∧ Own e w' base v' (l ++ sb s) ∧ w.grownBy w' v.ownBlock := by
  by_cases hsm : l.length + s.size ≤ 140737488355328
  · obtain ⟨v', w', h1, h2, h3, _⟩ := Lib.run_append_own_string (P := P) w base t u ty e i ht hu hi hz hsize hby v l.length (bs l) hown s (by simp only [maxLen]; omega) hsm hbase
    refine ⟨v', w', h1, ?_, h3⟩
    unfold Own
    rw [bs_append, List.length_append, sb_length]
    exact h2
  · have h63 : l.length + s.size ≤ maxLen := by simp only [maxLen]; omega
    have hsl := sb_length s
    rcases hown.2 with ⟨rfl, hn⟩ | ⟨g, cap, cur, rfl, hbg, hg, hnc, hcmx, hcs, htake⟩
    · have : l = [] := List.eq_nil_of_length_eq_zero hn
      subst this
      have hr := run_append_nil_string (P := P) w t u ty e i (.int .u8 0) ht hu hi hz s (by simp at hsm; omega) (by simp only [maxLen] at h63; simp at h63; omega) (by rw [hby]; simp at hb; omega)
      have hgr := grown_row (e := e) [] (sb s) 0 hbase (by rw [hsl]; exact h63) (Value.ownBlock (.slice none 0 0)) _ rfl
      simp only [List.length_nil, Nat.zero_add, List.nil_append, hsl] at hgr ⊢
      have e1 : (s.data.map fun b => Value.int .u8 b.toNat) = (bs (sb s)).toArray := by
        apply Array.ext'
        simp [bs, sb, u8c, Function.comp_def]
      rw [e1] at hr
      exact ⟨_, _, hr, hgr.1, hgr.2⟩
    · by_cases hroom : l.length + s.size ≤ cap
      · have hr := Lib.run_append_room_string (P := P) w t u ty e i ht hu hi hsize g l.length cap cur hg s hroom (by omega)
        refine ⟨_, _, hr, ⟨by simp [bs], .inr ⟨g, cap, _, by rw [List.length_append, hsl], hbg, setRow_heap w g cur _ e _ hg, by rw [List.length_append, hsl]; exact hroom, hcmx, ?_, ?_⟩⟩, ⟨rfl, rfl, rfl, by simp, fun k _ hk => setRow_other w g k _ (fun e => hk (by simp [Value.ownBlock, e]))⟩⟩
        · simp only [List.size_toArray, List.length_append, List.length_take, List.length_drop, Array.length_toList, Lib.strCells_length]
          omega
        · have ht' : cur.toList.take l.length = bs l := by simpa using htake
          rw [ht', strCells_sb, ← bs_append, Nat.mul_one, ← bs_length (l ++ sb s)]
          exact List.take_left
      · have holds : ∀ j u, (bs l)[j]? = some u → w.cell? ((⟨g, 0, none⟩ : Addr).add j) = some u := World.ownsRow.cells hown (g := g) rfl
        have hr := Lib.run_append_grow_string (P := P) w t u ty e i (.int .u8 0) ht hu hi hz ⟨g, 0, none⟩ l.length cap (bs l) (by simp [bs, hsize]) holds s (by omega) (by simp only [maxLen] at h63; omega) (by rw [hby, Nat.mul_one]; exact grow_fits (by omega) hb)
        have hgr := grown_row (e := e) l (sb s) cap hbase (by rw [hsl]; exact h63) (Value.ownBlock (.slice (some ⟨g, 0, none⟩) l.length cap)) _ rfl
        rw [hsl, bs_append] at hgr
        rw [strCells_sb] at hr
        refine ⟨_, _, hr, ?_, ?_⟩
        · simpa using hgr.1
        · simpa using hgr.2

theorem wpList_big8 {P : Program} (w : World) {ops : Array Oper} {rest : List Oper} {o : Oper} {a : Act} {Q : Exit → Act → World → Prop} (hgd : o.guard = none) (s x : Operand) (t : TypeId)
    (ho : o.op = .call { callee := .builtin .append, args := #[s, x], argTypes := #[t, t] })
    (base : Nat) (e : TypeId) (ht : P.underlying t = some (.slice e)) (hi : (P.info? e).map (fun i => (i.zero, i.size, i.bytes)) = some (some (.int .u8 0), 1, 1))
    (v : Value) (l : List UInt8) (hs : a.eval s = v) (hown : Own e w base v l) (d : Nat) (y : Value) (m : List UInt8) (hx : a.eval x = y) (hm : Shows w d y m)
    (hb : l.length + m.length ≤ 140746078289920) (hbase : base ≤ w.heap.size)
    (h : ∀ v' w', Own e w' base v' (l ++ m) → w.grownBy w' v.ownBlock → wpList P ops Q rest (a.put o.dst v') w') : wpList P ops Q (o :: rest) a w := by
  obtain ⟨i, hi0, hz, hs1, hb1⟩ := info_parts hi
  obtain ⟨v', w', hr, h2, h3⟩ := run_append_big8 (P := P) w base t o.type e i ht hi0 hz hs1 hb1 v l hown d y m hm hb hbase
  refine wpList_plain hgd fun K hK => ?_
  unfold Oper.wp execOp
  simp only [ho, resolve, invoke, builtin, Sem.run_bind, Sem.run_pure, Result.andThen_ok, List.map_toArray, List.map_cons, List.map_nil, hs, hx, hr]
  exact hK _ _ (h v' w' h2 h3)

theorem wpList_big8s {P : Program} (w : World) {ops : Array Oper} {rest : List Oper} {o : Oper} {a : Act} {Q : Exit → Act → World → Prop} (hgd : o.guard = none) (sl x : Operand) (t u : TypeId)
    (ho : o.op = .call { callee := .builtin .append, args := #[sl, x], argTypes := #[t, u] })
    (base : Nat) (e : TypeId) (ht : P.underlying t = some (.slice e)) (hu : P.underlying u = some .string) (hi : (P.info? e).map (fun i => (i.zero, i.size, i.bytes)) = some (some (.int .u8 0), 1, 1))
    (v : Value) (l : List UInt8) (hs : a.eval sl = v) (hown : Own e w base v l) (s : ByteArray) (hx : a.eval x = .string s)
    (hb : l.length + s.size ≤ 140746078289920) (hbase : base ≤ w.heap.size)
    (h : ∀ v' w', Own e w' base v' (l ++ sb s) → w.grownBy w' v.ownBlock → wpList P ops Q rest (a.put o.dst v') w') : wpList P ops Q (o :: rest) a w := by
  obtain ⟨i, hi0, hz, hs1, hb1⟩ := info_parts hi
  obtain ⟨v', w', hr, h2, h3⟩ := run_append_big8s (P := P) w base t u o.type e i ht hu hi0 hz hs1 hb1 v l hown s hb hbase
  refine wpList_plain hgd fun K hK => ?_
  unfold Oper.wp execOp
  simp only [ho, resolve, invoke, builtin, Sem.run_bind, Sem.run_pure, Result.andThen_ok, List.map_toArray, List.map_cons, List.map_nil, hs, hx, hr]
  exact hK _ _ (h v' w' h2 h3)

theorem Own.lit {w : World} {base : Nat} {e : TypeId} {cs : Array Value} (l : List UInt8) (h : cs = (bs l).toArray) (hl : l.length ≤ maxLen) (hb : base ≤ w.heap.size) :
    Own e (w.alloc (.cells cs e)) base (.slice (some ⟨w.heap.size, 0, none⟩) l.length l.length) l := by
  subst h
  have := World.ownsRow_lit (w := w) (e := e) (base := base) (size := 1) (bs l).toArray l.length hb hl (by simp [bs])
  simpa [Own] using this

end Go.Proofs.YtpmafabphlejeaaGreat
