/-
  Texts, together: Mem, P.
  Conditions: none but sizes.
-/
import Derived.Below
import Derived.Laws.OwnMore
import Derived.Deep.AppendLies
import Derived.Deep.Draws
import Derived.Laws.BytesString
import Derived.Laws.BytesArg
import Derived.Lib.AppendStr
import Derived.Lib.Hide
import Derived.WalkKit
import Derived.OwnWalk
import Derived.Laws.CopyOwn
import Derived.Lib.SlBytesConst
import Derived.Outline
import Derived.Test.YtpmafabphlejeaaGreatChecked
/-
  Words for memory, of no program: what it means that a slice of bytes shows a list, or is a row of the call's own; how such facts last.
  Conditions: none. Nothing here speaks of the program; it is used by the proofs of this seat.
-/
namespace Go.Proofs.YtpmafabphlejeaaGreat
open Go.RowKit
set_option linter.unusedVariables false
set_option linter.unusedSimpArgs false

/-- A byte as a cell. -/
def u8c (x : UInt8) : Value := .int .u8 x.toNat
/-- Bytes as cells. -/
def bs (l : List UInt8) : List Value := l.map u8c

theorem bs_length (l : List UInt8) : (bs l).length = l.length := by simp [bs]
theorem bs_append (a b : List UInt8) : bs (a ++ b) = bs a ++ bs b := by simp [bs]
theorem bs_one (l : List UInt8) : ∀ u ∈ bs l, u.oneCell' = true := by
  intro u hu
  obtain ⟨x, _, rfl⟩ := List.mem_map.1 hu
  rfl
theorem bs_get {l : List UInt8} {j : Nat} {u : Value} (h : (bs l)[j]? = some u) : ∃ hj : j < l.length, u = u8c l[j] := by
  have hj : j < l.length := by simpa [bs] using (List.getElem?_eq_some_iff.1 h).1
  refine ⟨hj, ?_⟩
  simp [bs, hj] at h
  exact h.symm

theorem add_plain' (b o j : Nat) : (⟨b, o, none⟩ : Addr).add j = ⟨b, o + j, none⟩ := by unfold Addr.add; split <;> simp_all

/-- The slice value v shows the bytes l in w, from block d. -/
def Shows (w : World) (d : Nat) (v : Value) (l : List UInt8) : Prop :=
  ∃ (A : Option Addr) (c : Nat), v = .slice A l.length c ∧ l.length ≤ c ∧ c ≤ maxLen ∧
    (0 < l.length → ∃ o, A = some ⟨d, o, none⟩ ∧ d < w.heap.size ∧ ∀ j (h : j < l.length), w.cell? ⟨d, o + j, none⟩ = some (u8c l[j]))

/-- A row of bytes of the call's own, from block 'base' on. -/
def Own (e : TypeId) (w : World) (base : Nat) (v : Value) (l : List UInt8) : Prop := w.ownsRow base e 1 v l.length (bs l)

section
variable {w w' : World} {d base : Nat} {v : Value} {l : List UInt8} {e : TypeId}

theorem Shows.keep (h : Shows w d v l) (hs : w.heap.size ≤ w'.heap.size) (hk : 0 < l.length → w'.heap[d]? = w.heap[d]?) : Shows w' d v l := by
  obtain ⟨A, c, e1, e2, e3, e4⟩ := h
  refine ⟨A, c, e1, e2, e3, fun hp => ?_⟩
  obtain ⟨o, f1, f2, f3⟩ := e4 hp
  exact ⟨o, f1, by omega, fun j hj => (World.cell?_of_block (w := w) (hk hp)).trans (f3 j hj)⟩

theorem Shows.below {B : Nat} (h : Shows w d v l) (hb : Below B w w') (hd : d < B) : Shows w' d v l := h.keep hb.size fun _ => hb.block d hd
theorem Shows.drew (h : Shows w d v l) : Shows w.drew d v l := h
theorem Shows.drewN (h : Shows w d v l) (n : Nat) : Shows (w.drewN n) d v l := h
theorem Shows.lt (h : Shows w d v l) (hp : 0 < l.length) : d < w.heap.size := by
  obtain ⟨A, c, e1, e2, e3, e4⟩ := h
  exact (e4 hp).choose_spec.2.1
theorem Shows.grown {row : Option Nat} (h : Shows w d v l) (hg : w.grownBy w' row) (hne : row ≠ some d) : Shows w' d v l :=
  h.keep hg.size fun hp => hg.block d (h.lt hp) (fun e => hne e.symm)
theorem Shows.at_ {A : Option Addr} {n c : Nat} (h : Shows w d (.slice A n c) l) (hp : 0 < l.length) : ∃ o, A = some ⟨d, o, none⟩ ∧ d < w.heap.size ∧ ∀ j (h : j < l.length), w.cell? ⟨d, o + j, none⟩ = some (u8c l[j]) := by
  obtain ⟨A', c', e, h2, h3, h4⟩ := h
  cases e
  exact h4 hp
theorem Shows.lens {A : Option Addr} {n c : Nat} (h : Shows w d (.slice A n c) l) : l.length = n ∧ n ≤ c ∧ c ≤ maxLen := by
  obtain ⟨A', c', e, h2, h3, h4⟩ := h
  cases e
  exact ⟨rfl, h2, h3⟩
theorem Shows.nil_ (w : World) (d : Nat) : Shows w d (.slice none 0 0) [] := ⟨none, 0, rfl, Nat.le_refl _, by simp [maxLen], fun h => absurd h (by simp)⟩

theorem Own.shows (h : Own e w base v l) : ∃ g, (0 < l.length → base ≤ g) ∧ Shows w g v l := by
  rcases h.2 with ⟨rfl, hn⟩ | ⟨g, cap, cur, rfl, hb, hg, hnc, hcm, hcs, ht⟩
  · have : l = [] := List.eq_nil_of_length_eq_zero hn
    subst this
    exact ⟨base, fun _ => Nat.le_refl _, Shows.nil_ _ _⟩
  · refine ⟨g, fun _ => hb, some ⟨g, 0, none⟩, cap, rfl, hnc, hcm, fun hp => ⟨0, rfl, (Array.getElem?_eq_some_iff.1 hg).1, fun j hj => ?_⟩⟩
    rw [cell_of_row w g (0 + j) cur e (0, 0) hg]
    have h2 : (bs l)[j]? = some (u8c l[j]) := by simp [bs, hj]
    rw [← ht, List.getElem?_take, if_pos (by omega)] at h2
    simpa using h2

theorem Own.shows' (h : Own e w base v l) (hw : base ≤ w.heap.size) : ∃ g, base ≤ g ∧ g ≤ w.heap.size ∧ Shows w g v l := by
  rcases h.2 with ⟨rfl, hn⟩ | ⟨g, cap, cur, rfl, hb, hg, r⟩
  · have : l = [] := List.eq_nil_of_length_eq_zero hn
    subst this
    exact ⟨base, Nat.le_refl _, hw, Shows.nil_ _ _⟩
  · obtain ⟨g', hg', hs⟩ := h.shows
    have hlt := (Array.getElem?_eq_some_iff.1 hg).1
    obtain ⟨A, c, e1, e2, e3, e4⟩ := hs
    cases e1
    refine ⟨g, hb, by omega, _, _, rfl, e2, e3, fun hp => ?_⟩
    obtain ⟨o, f1, f2, f3⟩ := e4 hp
    cases f1
    exact ⟨0, rfl, hlt, f3⟩

/-- An own row lies in one block; where that block is as it was, it is as it was. -/
theorem Own.kept {row : Option Nat} (h : Own e w base v l) (hg : w.grownBy w' row) (hne : v.ownBlock = none ∨ v.ownBlock ≠ row) : Own e w' base v l := World.ownsRow.kept h hg hne
theorem Own.keep (h : Own e w base v l) (hk : ∀ g, v.ownBlock = some g → w'.heap[g]? = w.heap[g]?) : Own e w' base v l := by
  refine ⟨h.1, ?_⟩
  rcases h.2 with hn | ⟨g, cap, cur, rfl, hb, hg, r⟩
  · exact .inl hn
  · exact .inr ⟨g, cap, cur, rfl, hb, (hk g rfl).trans hg, r⟩
theorem Own.mono {b' : Nat} (h : Own e w base v l) (hb : b' ≤ base) : Own e w b' v l := by
  refine ⟨h.1, ?_⟩
  rcases h.2 with hn | ⟨g, cap, cur, rfl, hb', r⟩
  · exact .inl hn
  · exact .inr ⟨g, cap, cur, rfl, by omega, r⟩
theorem Own.block (h : Own e w base v l) : ∀ g, v.ownBlock = some g → base ≤ g ∧ g < w.heap.size := World.ownsRow.lt h
theorem Own.form (h : Own e w base v l) : ∃ A c, v = .slice A l.length c ∧ l.length ≤ c ∧ c ≤ maxLen := by
  rcases h.2 with ⟨rfl, hn⟩ | ⟨g, cap, cur, rfl, hb, hg, hnc, hcm, _⟩
  · have : l = [] := List.eq_nil_of_length_eq_zero hn
    subst this
    exact ⟨none, 0, rfl, Nat.le_refl _, by simp [maxLen]⟩
  · exact ⟨_, _, rfl, hnc, hcm⟩
end

theorem Own.nil_ (e : TypeId) (w : World) (base : Nat) : Own e w base (.slice none 0 0) [] := World.ownsRow_nil w base e 1

/-- A new block of literal bytes is shown. -/
theorem Shows.lit {w : World} {e : TypeId} {cs : Array Value} (l : List UInt8) (h : cs = (bs l).toArray) (hl : l.length ≤ maxLen) :
    Shows (w.alloc (.cells cs e)) w.heap.size (.slice (some ⟨w.heap.size, 0, none⟩) l.length l.length) l := by
  subst h
  refine ⟨_, _, rfl, Nat.le_refl _, hl, fun hp => ⟨0, rfl, by simp, fun j hj => ?_⟩⟩
  rw [cell_of_row _ _ (0 + j) _ e (0, 0) (heap_alloc_new w _)]
  simp [bs, hj]

theorem u8_ofNat (n : Nat) : Value.int .u8 ((n : Int) % 256) = u8c (UInt8.ofNat n) := by
  simp [u8c]

/-- 'append' of bytes that are shown onto a row of the call's own. -/
theorem run_append_own8 {P : Program} (w : World) (base : Nat) (t ty e : TypeId) (i : TypeInfo) (ht : P.underlying t = some (.slice e)) (hi : P.info? e = some i) (hz : i.zero = some (.int .u8 0))
    (hsize : i.size = 1) (hby : i.bytes = 1) (v : Value) (l : List UInt8) (hown : Own e w base v l) (d : Nat) (x : Value) (m : List UInt8) (hx : Shows w d x m)
    (hb : l.length + m.length ≤ 140737488355328) (hbase : base ≤ w.heap.size) :
    ∃ v' w', (Builtin.append_ #[t, t] ty #[v, x]).run P w = .ok v' w' ∧ Own e w' base v' (l ++ m) ∧ w.grownBy w' v.ownBlock := by
  obtain ⟨A, c, rfl, hmc, hcm, hcell⟩ := hx
  by_cases hm : 0 < m.length
  · obtain ⟨o, rfl, _, hc⟩ := hcell hm
    obtain ⟨v', w', h1, h2, h3, _⟩ := run_append_own (P := P) w base t ty e i (.int .u8 0) 1 1 ht hi hz hsize hby rfl (by omega) v l.length (bs l) hown ⟨d, o, none⟩ m.length c (bs m) (by simp [bs])
      (fun j u hu => by obtain ⟨hj, rfl⟩ := bs_get hu; rw [add_plain']; exact hc j hj) (bs_one m) (by simp only [maxLen]; omega) (by omega) hbase
    refine ⟨v', w', h1, ?_, h3⟩
    unfold Own
    rw [bs_append, List.length_append]
    exact h2
  · have : m = [] := List.eq_nil_of_length_eq_zero (by omega)
    subst this
    rw [List.append_nil]
    refine ⟨v, w, ?_, hown, ⟨rfl, rfl, rfl, Nat.le_refl _, fun _ _ _ => rfl⟩⟩
    have h0 : ∀ a : Addr, (loadCells a 0).run P w = .ok #[] w := fun a => by simpa using run_loadCells_list (P := P) w a [] (by simp)
    rcases hown.2 with ⟨rfl, hn⟩ | ⟨g, cap, cur, rfl, _, _, hnc, _⟩
    · rcases A with _ | a <;> simp [Builtin.append_, run_underlying ht, sizeOf, typeInfo, hi, Builtin.lenOf, Builtin.firstCells, h0]
    · rcases A with _ | a <;> simp [Builtin.append_, run_underlying ht, sizeOf, typeInfo, hi, Builtin.lenOf, Builtin.firstCells, hnc, storeCells, h0]

/-- The same at the operation, for the walk. -/
theorem wpList_append8 {P : Program} (w : World) {ops : Array Oper} {rest : List Oper} {o : Oper} {a : Act} {Q : Exit → Act → World → Prop} (hgd : o.guard = none) (s x : Operand) (t : TypeId)
    (ho : o.op = .call { callee := .builtin .append, args := #[s, x], argTypes := #[t, t] })
    (base : Nat) (e : TypeId) (ht : P.underlying t = some (.slice e)) (hi : (P.info? e).map (fun i => (i.zero, i.size, i.bytes)) = some (some (.int .u8 0), 1, 1))
    (v : Value) (l : List UInt8) (hs : a.eval s = v) (hown : Own e w base v l) (d : Nat) (y : Value) (m : List UInt8) (hx : a.eval x = y) (hm : Shows w d y m)
    (hb : l.length + m.length ≤ 140737488355328) (hbase : base ≤ w.heap.size)
    (h : ∀ v' w', Own e w' base v' (l ++ m) → w.grownBy w' v.ownBlock → wpList P ops Q rest (a.put o.dst v') w') : wpList P ops Q (o :: rest) a w := by
  obtain ⟨i, hi0, hz, hs1, hb1⟩ := info_parts hi
  obtain ⟨v', w', hr, h2, h3⟩ := run_append_own8 (P := P) w base t o.type e i ht hi0 hz hs1 hb1 v l hown d y m hm hb hbase
  refine wpList_plain hgd fun K hK => ?_
  unfold Oper.wp execOp
  simp only [ho, resolve, invoke, builtin, Sem.run_bind, Sem.run_pure, Result.andThen_ok, List.map_toArray, List.map_cons, List.map_nil, hs, hx, hr]
  exact hK _ _ (h v' w' h2 h3)

/-- A string's bytes. -/
def sb (s : ByteArray) : List UInt8 := s.data.toList
theorem sb_length (s : ByteArray) : (sb s).length = s.size := by simp [sb]
theorem strCells_sb (s : ByteArray) : Lib.strCells s = bs (sb s) := rfl
/-- Bytes as a string. -/
def str8 (l : List UInt8) : ByteArray := ⟨l.toArray⟩
theorem sb_str8 (l : List UInt8) : sb (str8 l) = l := rfl
theorem str8_sb (s : ByteArray) : str8 (sb s) = s := by cases s; simp [str8, sb]
theorem str8_size (l : List UInt8) : (str8 l).size = l.length := by simp [str8, ByteArray.size]

theorem str8_toList (l : List UInt8) : (str8 l).toList = l := by rw [ByteArray.toList_eq]; rfl
theorem sb_toList (s : ByteArray) : s.toList = sb s := by rw [ByteArray.toList_eq]; rfl

/-- 'append' of a string's bytes, for the walk. -/
theorem wpList_append8s {P : Program} (w : World) {ops : Array Oper} {rest : List Oper} {o : Oper} {a : Act} {Q : Exit → Act → World → Prop} (hgd : o.guard = none) (sl x : Operand) (t u : TypeId)
    (ho : o.op = .call { callee := .builtin .append, args := #[sl, x], argTypes := #[t, u] })
    (base : Nat) (e : TypeId) (ht : P.underlying t = some (.slice e)) (hu : P.underlying u = some .string) (hi : (P.info? e).map (fun i => (i.zero, i.size, i.bytes)) = some (some (.int .u8 0), 1, 1))
    (v : Value) (l : List UInt8) (hs : a.eval sl = v) (hown : Own e w base v l) (s : ByteArray) (hx : a.eval x = .string s)
    (hb : l.length + s.size ≤ 140737488355328) (hbase : base ≤ w.heap.size)
    (h : ∀ v' w', Own e w' base v' (l ++ sb s) → w.grownBy w' v.ownBlock → wpList P ops Q rest (a.put o.dst v') w') : wpList P ops Q (o :: rest) a w := by
  obtain ⟨i, hi0, hz, hs1, hb1⟩ := info_parts hi
  refine Lib.wpList_append_own_string w hgd sl x t u ho base e i ht hu hi0 hz hs1 hb1 v l.length (bs l) hs hown s hx (by simp only [maxLen]; omega) hb hbase fun v' w' h2 h3 _ => h v' w' ?_ h3
  unfold Own
  rw [bs_append, List.length_append, sb_length]
  exact h2

/-- A slice of bytes as a string. -/
theorem run_conv8 {P : Program} (w : World) (src e dst : TypeId) (hs : P.underlying src = some (.slice e)) (he : P.underlying e = some (.int .u8)) (hd : P.underlying dst = some .string)
    (d : Nat) (v : Value) (l : List UInt8) (h : Shows w d v l) : (convert src dst v).run P w = .ok (.string (str8 l)) w := by
  obtain ⟨A, c, rfl, _, _, hc⟩ := h
  by_cases hp : 0 < l.length
  · obtain ⟨o, rfl, _, hcell⟩ := hc hp
    have := run_convert_bytes_arg (P := P) w src e hs he d o l.length c (l.map fun x => (x.toNat : Int)) (by simp) (fun i hi => by
      rw [hcell i hi]
      simp [u8c, List.getD, hi]) dst hd
    rw [this]
    congr 2
    simp [strOfNums, str8, Function.comp_def]
  · have : l = [] := List.eq_nil_of_length_eq_zero (by omega)
    subst this
    rcases A with _ | a
    · exact run_convert_bytes_nil w src e hs he _ _ dst hd
    · rw [run_convert_bytes_string w src dst e _ _ _ hs he hd]
      show (Conv.bytesToString (Value.slice (some a) 0 c)).run P w = _
      rw [run_bytesToString w a 0 c [] (by simpa using run_loadCells_list (P := P) w a [] (by simp))]
      rfl

/-- 'make([]byte, n)', at the operation. -/
theorem wpList_make8 {P : Program} (w : World) {ops : Array Oper} {rest : List Oper} {o : Oper} {a : Act} {Q : Exit → Act → World → Prop}
    (hg : o.guard = none) (l c : Operand) (t e : TypeId) (hop : o.op = Op.makeSlice t l c)
    (ht : P.underlying t = some (.slice e)) (hi : (P.info? e).map (fun i => (i.zero, i.size, i.bytes)) = some (some (.int .u8 0), 1, 1))
    (L : Int) (n : Nat) (hl : a.eval l = .int .i64 L) (hc : a.eval c = .int .i64 L) (hL : L = (n : Int)) (hn : n ≤ 140737488355328)
    (hK : ∀ w', Own e w' w.heap.size (.slice (some ⟨w.heap.size, 0, none⟩) n n) (List.replicate n 0) → w.grownBy w' none → wpList P ops Q rest (a.put o.dst (.slice (some ⟨w.heap.size, 0, none⟩) n n)) w') :
    wpList P ops Q (o :: rest) a w := by
  obtain ⟨i, hi0, hz, hs1, hb1⟩ := info_parts hi
  refine wpList_make_full w hg l c t hop w.heap.size e i (.int .u8 0) 1 ht hi0 hz hs1 .i64 .i64 L L n hl hc hL hL (by rw [hb1]; omega) (by simp only [maxLen]; omega) (Nat.le_refl _) fun w' h1 h2 => hK w' ?_ h2
  unfold Own
  have e1 : (madeCells (Value.int .u8 0).cells (n * 1)).toList = bs (List.replicate n 0) := by
    rw [show (Value.int .u8 0).cells = #[.int .u8 0] from rfl, toList_madeCells_one, Nat.mul_one]
    simp [bs, u8c]
  rw [e1] at h1
  rw [List.length_replicate]
  exact h1

/-- 'copy(dst, src)' onto the head of a row of the call's own that is long enough. -/
theorem wpList_copy8 {P : Program} (w : World) {ops : Array Oper} {rest : List Oper} {o : Oper} {a : Act} {Q : Exit → Act → World → Prop} (hgd : o.guard = none) (dd s : Operand) (t e : TypeId)
    (ho : o.op = .call { callee := .builtin .copy, args := #[dd, s], argTypes := #[t, t] }) (ht : P.underlying t = some (.slice e)) (hi : (P.info? e).map (fun i => (i.zero, i.size, i.bytes)) = some (some (.int .u8 0), 1, 1))
    (base : Nat) (v : Value) (l : List UInt8) (hv : a.eval dd = v) (hown : Own e w base v l) (d : Nat) (y : Value) (m : List UInt8) (hy : a.eval s = y) (hm : Shows w d y m) (hml : m.length ≤ l.length)
    (h : ∀ w', Own e w' base v (m ++ l.drop m.length) → w.grownBy w' v.ownBlock → wpList P ops Q rest (a.put o.dst (goInt m.length)) w') :
    wpList P ops Q (o :: rest) a w := by
  obtain ⟨i, hi0, hz, hs1, hb1⟩ := info_parts hi
  have hsz : (P.info? e).map (·.size) = some 1 := by rw [hi0]; simp [hs1]
  obtain ⟨A, c, rfl, hmc, hcm, hcell⟩ := hm
  by_cases hp : 0 < m.length
  · obtain ⟨oo, rfl, _, hc⟩ := hcell hp
    rcases hown.2 with ⟨rfl, hn⟩ | ⟨g, cap, cur, rfl, hb, hg, hnc, hcm', hcs, htk⟩
    · omega
    · refine wpList_copy_own hgd dd s t t ho e ht hsz g 0 l.length cap ⟨d, oo, none⟩ m.length c hv hy cur e hg (bs m) (by rw [bs_length]; exact (Nat.min_eq_left hml).symm) (fun j u hu => by obtain ⟨hj, rfl⟩ := bs_get hu; rw [add_plain']; exact hc j hj)
        (by rw [bs_length]; omega) (bs_one m) ?_
      rw [bs_length]
      refine h _ ⟨by simp [bs], .inr ⟨g, cap, _, by rw [List.length_append, List.length_drop]; congr 1; omega, hb, setRow_heap w g cur _ e _ hg, ?_, hcm', ?_, ?_⟩⟩ ⟨rfl, rfl, rfl, by simp, fun k _ hk => setRow_other w g k _ (fun e => hk (by simp [Value.ownBlock, e]))⟩
      · rw [List.length_append, List.length_drop]; omega
      · simp only [List.size_toArray, List.take_zero, List.nil_append, List.length_append, bs_length, List.length_drop, Array.length_toList]
        omega
      · have e1 : (m ++ l.drop m.length).length * 1 = l.length := by rw [List.length_append, List.length_drop]; omega
        rw [e1]
        simp only [List.take_zero, List.nil_append, Nat.zero_add]
        rw [Nat.mul_one] at htk
        rw [bs_append, List.take_append, bs_length, List.take_of_length_le (by rw [bs_length]; omega)]
        congr 1
        rw [← List.drop_take, htk]
        simp [bs, List.map_drop]
  · have : m = [] := List.eq_nil_of_length_eq_zero (by omega)
    subst this
    obtain ⟨Ad, cd, rfl, _, _⟩ := hown.form
    refine wpList_copy_nothing hgd dd s t t ho e ht hsz Ad A l.length cd 0 c hv hy (by simp) ?_
    exact h w (by simpa using hown) ⟨rfl, rfl, rfl, Nat.le_refl _, fun _ _ _ => rfl⟩

theorem Shows.head {w : World} {d : Nat} {A : Option Addr} {n c k : Nat} {l : List UInt8} (h : Shows w d (.slice A n c) l) (hk : k ≤ l.length) : Shows w d (.slice A k c) (l.take k) := by
  obtain ⟨A', c', e, h2, h3, h4⟩ := h
  cases e
  refine ⟨A, c, by simp [Nat.min_eq_left hk], by simp; omega, h3, fun hp => ?_⟩
  simp at hp
  obtain ⟨o, h5, h6, h7⟩ := h4 (by omega)
  exact ⟨o, h5, h6, fun j hj => by rw [h7 j (by simp at hj; omega)]; simp⟩

/-- The head with another capacity. -/
theorem Shows.head' {w : World} {d : Nat} {A : Option Addr} {n c k c' : Nat} {l : List UInt8} (h : Shows w d (.slice A n c) l) (hk : k ≤ l.length) (hc : k ≤ c') (hc' : c' ≤ c) : Shows w d (.slice A k c') (l.take k) := by
  obtain ⟨A', c2, e, h2, h3, h4⟩ := h
  cases e
  refine ⟨A, c', by simp [Nat.min_eq_left hk], by simp; omega, by omega, fun hp => ?_⟩
  simp at hp
  obtain ⟨o, h5, h6, h7⟩ := h4 (by omega)
  exact ⟨o, h5, h6, fun j hj => by rw [h7 j (by simp at hj; omega)]; simp⟩

theorem Shows.tail {w : World} {d : Nat} {A : Option Addr} {n c k : Nat} {l : List UInt8} (h : Shows w d (.slice A n c) l) (hk : k ≤ l.length) (A' : Option Addr) (hA : ¬ c = k → A' = A.map (fun x => x.add k)) :
    Shows w d (.slice A' (n - k) (c - k)) (l.drop k) := by
  obtain ⟨A', c', e, h2, h3, h4⟩ := h
  cases e
  refine ⟨_, c - k, by rw [List.length_drop], by simp; omega, by omega, fun hp => ?_⟩
  simp at hp
  obtain ⟨o, h5, h6, h7⟩ := h4 (by omega)
  have h8 := hA (by omega)
  subst h5
  refine ⟨o + k, by rw [h8]; simp [add_plain'], h6, fun j hj => ?_⟩
  have := h7 (k + j) (by simp at hj; omega)
  rw [show o + k + j = o + (k + j) by omega, this]
  simp

theorem Own.at_ {w : World} {base n c : Nat} {A : Option Addr} {m : List UInt8} {e : TypeId} (h : Own e w base (.slice A n c) m) (hp : 0 < n) :
    ∃ b, A = some ⟨b, 0, none⟩ ∧ base ≤ b ∧ b < w.heap.size ∧ (∀ j, w.frozen? ⟨b, j, none⟩ = false) ∧ ∀ j (hj : j < m.length), w.cell? ⟨b, j, none⟩ = some (u8c m[j]) := by
  rcases h.2 with ⟨h1, h2⟩ | ⟨b, cap, cur, h1, hb, hg, _⟩
  · cases h1; omega
  · cases h1
    refine ⟨b, rfl, hb, (Array.getElem?_eq_some_iff.1 hg).1, fun j => frozen_of_row w b j cur e hg, fun j hj => ?_⟩
    rw [World.ownsRow.cellAt h j (by omega)]
    simp [bs, hj]
theorem Own.set_ {w : World} {base b n c : Nat} {m : List UInt8} {e : TypeId} (h : Own e w base (.slice (some ⟨b, 0, none⟩) n c) m) (hn : m.length = n) (j : Nat) (y : UInt8) (u : Value) (hu : u = u8c y) :
    Own e (w.setCell ⟨b, j, none⟩ u) base (.slice (some ⟨b, 0, none⟩) n c) (m.set j y) := by
  subst hu
  subst hn
  have := (World.ownsRow.stored h j (u8c y)).1
  unfold Own
  rw [List.length_set]
  have e : bs (m.set j y) = (bs m).set j (u8c y) := by simp [bs, List.map_set]
  rw [e]
  exact this
theorem Own.len_ {w : World} {base n c : Nat} {A : Option Addr} {m : List UInt8} {e : TypeId} (h : Own e w base (.slice A n c) m) : m.length = n ∧ n ≤ c ∧ c ≤ maxLen := by
  obtain ⟨A', c', h1, h2, h3⟩ := h.form
  cases h1
  exact ⟨rfl, h2, h3⟩
/-- A store into a block from B on. -/
theorem below_set {B b j : Nat} {w0 w : World} (hb : Below B w0 w) (hB : B ≤ b) (v : Value) : Below B w0 (w.setCell ⟨b, j, none⟩ v) := hb.setCell (p := ⟨b, j, none⟩) hB v

/-- A new block of literal bytes, marked as a constant's, is shown. -/
theorem Shows.lit' {w : World} {e : TypeId} {cs : Array Value} {fr : Nat × Nat} (l : List UInt8) (h : cs = (bs l).toArray) (hl : l.length ≤ maxLen) :
    Shows (w.alloc (.cells cs e fr)) w.heap.size (.slice (some ⟨w.heap.size, 0, none⟩) l.length l.length) l := by
  subst h
  refine ⟨_, _, rfl, Nat.le_refl _, hl, fun hp => ⟨0, rfl, by simp, fun j hj => ?_⟩⟩
  rw [cell_of_row _ _ (0 + j) _ e fr (heap_alloc_new w _)]
  simp [bs, hj]

theorem Own.alloc_ {w : World} {base : Nat} {v : Value} {l : List UInt8} {e : TypeId} (h : Own e w base v l) (o : Obj) : Own e (w.alloc o) base v l := World.ownsRow.alloc h o
theorem frame1 {e : TypeId} {w w1 : World} (hb : Below w.heap.size w w1) {o : Obj} {v : Value} {l : List UInt8} {w2 : World} (ho : Own e w1 w.heap.size v l) (hg : (w1.alloc o).grownBy w2 v.ownBlock) : Below w.heap.size w w2 :=
  (hb.alloc hb.size _).grown hg (by have := hb.size; simp; omega) (fun k hk => (ho.block k hk).1)
theorem below_drewN {B : Nat} {a w : World} (h : Below B a w) (n : Nat) : Below B a (w.drewN n) := ⟨h.os, h.tape, h.output, h.size, h.block⟩
theorem below_of_grown {w w' : World} {g B : Nat} (h : w.grownBy w' (some g)) (hB : B ≤ g) (hs : B ≤ w.heap.size) : Below B w w' :=
  (Below.refl _ _).grown h hs (fun k hk => by cases hk; exact hB)
theorem below_drew1 {B : Nat} {a w : World} (h : Below B a w) : Below B a w.drew := ⟨h.os, h.tape, h.output, h.size, h.block⟩

end Go.Proofs.YtpmafabphlejeaaGreat
/-
  Facts of this seat's program that all of its texts share; the ranges of integers that came in.
  Conditions: none.
-/
namespace Go.Proofs.YtpmafabphlejeaaGreat
open Go.RowKit
set_option linter.unusedVariables false
set_option linter.unusedSimpArgs false

theorem info5 : (Tryz.prog.info? 5).map (fun i => (i.zero, i.size, i.bytes)) = some (some (.int .u8 0), 1, 1) := by kernel_rfl
theorem own : ownKnob Tryz.prog.godebug = none := by kernel_rfl
theorem laidOut : laidOutB Tryz.prog = true := by kernel_rfl
theorem bytes5 : Tryz.prog.bytesOf 5 = 1 := by kernel_rfl

theorem conv_at {w : World} {d : Nat} {v : Value} {l : List UInt8} (h : Shows w d v l) : (convert 133 9 v).run Tryz.prog w = .ok (.string (str8 l)) w :=
  run_conv8 (P := Tryz.prog) _ 133 5 9 Tryz.underlying133 Tryz.underlying5 Tryz.underlying9 d v l h

theorem i64_id (n : Int) (h1 : -9223372036854775808 ≤ n) (h2 : n ≤ 9223372036854775807) : IntKind.i64.wrap n = n := by
  rw [IntKind.wrap_i64]; omega
theorem w64_id (n : Int) (h1 : -9223372036854775808 ≤ n) (h2 : n ≤ 9223372036854775807) : wrap64 n = n := by
  unfold wrap64; omega

theorem i64_range {b : Int} (h : (Lit.int .i64 b).wf = true) : -9223372036854775808 ≤ b ∧ b ≤ 9223372036854775807 := by
  simp only [Lit.wf, IntKind.min, IntKind.max, IntKind.signed, IntKind.bits, Bool.and_eq_true, decide_eq_true_eq] at h
  simp at h
  exact h
theorem u8_range {b : Int} (h : (Lit.int .u8 b).wf = true) : 0 ≤ b ∧ b < 256 := by
  simp only [Lit.wf, IntKind.min, IntKind.max, IntKind.signed, IntKind.bits, Bool.and_eq_true, decide_eq_true_eq] at h
  simp at h
  omega

theorem u64_range {b : Int} (h : (Lit.int .u64 b).wf = true) : 0 ≤ b ∧ b < 18446744073709551616 := by
  simp only [Lit.wf, IntKind.min, IntKind.max, IntKind.signed, IntKind.bits, Bool.and_eq_true, decide_eq_true_eq] at h
  simp at h
  omega

theorem u32_range {b : Int} (h : (Lit.int .u32 b).wf = true) : 0 ≤ b ∧ b < 4294967296 := by
  simp only [Lit.wf, IntKind.min, IntKind.max, IntKind.signed, IntKind.bits, Bool.and_eq_true, decide_eq_true_eq] at h
  simp at h
  omega

end Go.Proofs.YtpmafabphlejeaaGreat
