/-
  More words for memory, of no program: make and copy of bytes, a byte stored into a row of the call's own, cuts of a slice that shows a list.
  Conditions: none.
-/
import Derived.Test.YtelmbboapbmggaaDoorMem
import Derived.OwnWalk
import Derived.Laws.CopyOwn
namespace Go.Proofs.YtelmbboapbmggaaDoor
open Go.RowKit
set_option linter.unusedVariables false
set_option linter.unusedSimpArgs false

/-- 'make([]byte, n)', at the operation. -/
theorem wpList_make8 {P : Program} (w : World) {ops : Array Oper} {rest : List Oper} {o : Oper} {a : Act} {Q : Exit → Act → World → Prop}
    (hg : o.guard = none) (l c : Operand) (t e : TypeId) (hop : o.op = Op.makeSlice t l c)
    (ht : P.underlying t = some (.slice e)) (hi : (P.info? e).map (fun i => (i.zero, i.size, i.bytes)) = some (some (.int .u8 0), 1, 1))
    (L : Int) (n : Nat) (hl : a.eval l = .int .i64 L) (hc : a.eval c = .int .i64 L) (hL : L = (n : Int)) (hn : n ≤ 140737488355328)
    (hK : ∀ w', Own e w' w.heap.size (.slice (some ⟨w.heap.size, 0, none⟩) n n) (List.replicate n 0) → w.grownBy w' none → wpList P ops Q rest (a.put o.dst (.slice (some ⟨w.heap.size, 0, none⟩) n n)) w') :
    wpList P ops Q (o :: rest) a w := by
  obtain ⟨i, hi0, hz, hs1, hb1⟩ := info_parts hi
  refine wpList_make_full w hg l c t hop w.heap.size e i (.int .u8 0) 1 ht hi0 hz hs1 .i64 .i64 L L n hl hc hL hL (by rw [hb1]; omega) (by simp only [maxLen]; omega) (Nat.le_refl _) fun w' h1 h2 => hK w' ?_ h2
  unfold Own
  have e1 : (madeCells (Value.int .u8 0).cells (n * 1)).toList = bs (List.replicate n 0) := by
    rw [show (Value.int .u8 0).cells = #[.int .u8 0] from rfl, toList_madeCells_one, Nat.mul_one]
    simp [bs, u8c]
  rw [e1] at h1
  rw [List.length_replicate]
  exact h1

/-- 'copy(dst, src)' onto the head of a row of the call's own that is long enough. -/
theorem wpList_copy8 {P : Program} (w : World) {ops : Array Oper} {rest : List Oper} {o : Oper} {a : Act} {Q : Exit → Act → World → Prop} (hgd : o.guard = none) (dd s : Operand) (t e : TypeId)
    (ho : o.op = .call { callee := .builtin .copy, args := #[dd, s], argTypes := #[t, t] }) (ht : P.underlying t = some (.slice e)) (hi : (P.info? e).map (fun i => (i.zero, i.size, i.bytes)) = some (some (.int .u8 0), 1, 1))
    (base : Nat) (v : Value) (l : List UInt8) (hv : a.eval dd = v) (hown : Own e w base v l) (d : Nat) (y : Value) (m : List UInt8) (hy : a.eval s = y) (hm : Shows w d y m) (hml : m.length ≤ l.length)
    (h : ∀ w', Own e w' base v (m ++ l.drop m.length) → w.grownBy w' v.ownBlock → wpList P ops Q rest (a.put o.dst (goInt m.length)) w') :
    wpList P ops Q (o :: rest) a w := by
  obtain ⟨i, hi0, hz, hs1, hb1⟩ := info_parts hi
  have hsz : (P.info? e).map (·.size) = some 1 := by rw [hi0]; simp [hs1]
  obtain ⟨A, c, rfl, hmc, hcm, hcell⟩ := hm
  by_cases hp : 0 < m.length
  · obtain ⟨oo, rfl, _, hc⟩ := hcell hp
    rcases hown.2 with ⟨rfl, hn⟩ | ⟨g, cap, cur, rfl, hb, hg, hnc, hcm', hcs, htk⟩
    · omega
    · refine wpList_copy_own hgd dd s t t ho e ht hsz g 0 l.length cap ⟨d, oo, none⟩ m.length c hv hy cur e hg (bs m) (by rw [bs_length]; exact (Nat.min_eq_left hml).symm) (fun j u hu => by obtain ⟨hj, rfl⟩ := bs_get hu; rw [add_plain']; exact hc j hj)
        (by rw [bs_length]; omega) (bs_one m) ?_
      rw [bs_length]
      refine h _ ⟨by simp [bs], .inr ⟨g, cap, _, by rw [List.length_append, List.length_drop]; congr 1; omega, hb, setRow_heap w g cur _ e _ hg, ?_, hcm', ?_, ?_⟩⟩ ⟨rfl, rfl, rfl, by simp, fun k _ hk => setRow_other w g k _ (fun e => hk (by simp [Value.ownBlock, e]))⟩
      · rw [List.length_append, List.length_drop]; omega
      · simp only [List.size_toArray, List.take_zero, List.nil_append, List.length_append, bs_length, List.length_drop, Array.length_toList]
        omega
      · have e1 : (m ++ l.drop m.length).length * 1 = l.length := by rw [List.length_append, List.length_drop]; omega
        rw [e1]
        simp only [List.take_zero, List.nil_append, Nat.zero_add]
        rw [Nat.mul_one] at htk
        rw [bs_append, List.take_append, bs_length, List.take_of_length_le (by rw [bs_length]; omega)]
        congr 1
        rw [← List.drop_take, htk]
        simp [bs, List.map_drop]
  · have : m = [] := List.eq_nil_of_length_eq_zero (by omega)
    subst this
    obtain ⟨Ad, cd, rfl, _, _⟩ := hown.form
    refine wpList_copy_nothing hgd dd s t t ho e ht hsz Ad A l.length cd 0 c hv hy (by simp) ?_
    exact h w (by simpa using hown) ⟨rfl, rfl, rfl, Nat.le_refl _, fun _ _ _ => rfl⟩

theorem Shows.head {w : World} {d : Nat} {A : Option Addr} {n c k : Nat} {l : List UInt8} (h : Shows w d (.slice A n c) l) (hk : k ≤ l.length) : Shows w d (.slice A k c) (l.take k) := by
  obtain ⟨A', c', e, h2, h3, h4⟩ := h
  cases e
  refine ⟨A, c, by simp [Nat.min_eq_left hk], by simp; omega, h3, fun hp => ?_⟩
  simp at hp
  obtain ⟨o, h5, h6, h7⟩ := h4 (by omega)
  exact ⟨o, h5, h6, fun j hj => by rw [h7 j (by simp at hj; omega)]; simp⟩

/-- The head with another capacity. -/
theorem Shows.head' {w : World} {d : Nat} {A : Option Addr} {n c k c' : Nat} {l : List UInt8} (h : Shows w d (.slice A n c) l) (hk : k ≤ l.length) (hc : k ≤ c') (hc' : c' ≤ c) : Shows w d (.slice A k c') (l.take k) := by
  obtain ⟨A', c2, e, h2, h3, h4⟩ := h
  cases e
  refine ⟨A, c', by simp [Nat.min_eq_left hk], by simp; omega, by omega, fun hp => ?_⟩
  simp at hp
  obtain ⟨o, h5, h6, h7⟩ := h4 (by omega)
  exact ⟨o, h5, h6, fun j hj => by rw [h7 j (by simp at hj; omega)]; simp⟩

theorem Shows.tail {w : World} {d : Nat} {A : Option Addr} {n c k : Nat} {l : List UInt8} (h : Shows w d (.slice A n c) l) (hk : k ≤ l.length) (A' : Option Addr) (hA : ¬ c = k → A' = A.map (fun x => x.add k)) :
    Shows w d (.slice A' (n - k) (c - k)) (l.drop k) := by
  obtain ⟨A', c', e, h2, h3, h4⟩ := h
  cases e
  refine ⟨_, c - k, by rw [List.length_drop], by simp; omega, by omega, fun hp => ?_⟩
  simp at hp
  obtain ⟨o, h5, h6, h7⟩ := h4 (by omega)
  have h8 := hA (by omega)
  subst h5
  refine ⟨o + k, by rw [h8]; simp [add_plain'], h6, fun j hj => ?_⟩
  have := h7 (k + j) (by simp at hj; omega)
  rw [show o + k + j = o + (k + j) by omega, this]
  simp

theorem Own.at_ {w : World} {base n c : Nat} {A : Option Addr} {m : List UInt8} {e : TypeId} (h : Own e w base (.slice A n c) m) (hp : 0 < n) :
    ∃ b, A = some ⟨b, 0, none⟩ ∧ base ≤ b ∧ b < w.heap.size ∧ (∀ j, w.frozen? ⟨b, j, none⟩ = false) ∧ ∀ j (hj : j < m.length), w.cell? ⟨b, j, none⟩ = some (u8c m[j]) := by
  rcases h.2 with ⟨h1, h2⟩ | ⟨b, cap, cur, h1, hb, hg, _⟩
  · cases h1; omega
  · cases h1
    refine ⟨b, rfl, hb, (Array.getElem?_eq_some_iff.1 hg).1, fun j => frozen_of_row w b j cur e hg, fun j hj => ?_⟩
    rw [World.ownsRow.cellAt h j (by omega)]
    simp [bs, hj]
theorem Own.set_ {w : World} {base b n c : Nat} {m : List UInt8} {e : TypeId} (h : Own e w base (.slice (some ⟨b, 0, none⟩) n c) m) (hn : m.length = n) (j : Nat) (y : UInt8) (u : Value) (hu : u = u8c y) :
    Own e (w.setCell ⟨b, j, none⟩ u) base (.slice (some ⟨b, 0, none⟩) n c) (m.set j y) := by
  subst hu
  subst hn
  have := (World.ownsRow.stored h j (u8c y)).1
  unfold Own
  rw [List.length_set]
  have e : bs (m.set j y) = (bs m).set j (u8c y) := by simp [bs, List.map_set]
  rw [e]
  exact this
theorem Own.len_ {w : World} {base n c : Nat} {A : Option Addr} {m : List UInt8} {e : TypeId} (h : Own e w base (.slice A n c) m) : m.length = n ∧ n ≤ c ∧ c ≤ maxLen := by
  obtain ⟨A', c', h1, h2, h3⟩ := h.form
  cases h1
  exact ⟨rfl, h2, h3⟩
/-- A store into a block from B on. -/
theorem below_set {B b j : Nat} {w0 w : World} (hb : Below B w0 w) (hB : B ≤ b) (v : Value) : Below B w0 (w.setCell ⟨b, j, none⟩ v) := hb.setCell (p := ⟨b, j, none⟩) hB v

end Go.Proofs.YtelmbboapbmggaaDoor
