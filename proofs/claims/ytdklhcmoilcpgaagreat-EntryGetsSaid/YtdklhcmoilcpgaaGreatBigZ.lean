/-
  Texts, together: Gen, Big.
  Conditions: none but sizes.
-/
import Derived.Test.YtdklhcmoilcpgaaGreatMemZ
set_option linter.unusedVariables false
set_option linter.unusedSimpArgs false
namespace Go.Proofs.YtdklhcmoilcpgaaGreat
open Go.RowKit
structure Code (α : Type) where
  enc : α → List Value
  sz : Nat
  len : ∀ x, (enc x).length = sz
  one : ∀ x, ∀ u ∈ enc x, u.oneCell' = true
  pos : 0 < sz
section
variable {α : Type} (C : Code α)
def Code.all (l : List α) : List Value := l.flatMap C.enc
theorem Code.all_cons (x : α) (l : List α) : C.all (x :: l) = C.enc x ++ C.all l := by simp [Code.all]
theorem Code.all_append (a b : List α) : C.all (a ++ b) = C.all a ++ C.all b := by simp [Code.all]
theorem Code.all_length : ∀ l : List α, (C.all l).length = l.length * C.sz
 | [] => by simp [Code.all]
 | x :: l => by rw [C.all_cons, List.length_append, C.len, all_length l, List.length_cons, Nat.add_mul]; omega
theorem Code.all_one (l : List α) : ∀ u ∈ C.all l, u.oneCell' = true := by
 intro u hu
 obtain ⟨x, _, hx⟩ := List.mem_flatMap.1 hu
 exact C.one x u hx
theorem Code.all_get : ∀ (l : List α) (j k : Nat) (h : j < l.length), k < C.sz → (C.all l)[j * C.sz + k]? = (C.enc l[j])[k]?
 | x :: l, 0, k, _, hk => by
  rw [C.all_cons, Nat.zero_mul, Nat.zero_add, List.getElem?_append_left (by rw [C.len]; exact hk)]
  rfl
 | x :: l, j + 1, k, h, hk => by
  rw [C.all_cons, List.getElem?_append_right (by rw [C.len, Nat.add_mul]; omega), C.len, show (j + 1) * C.sz + k - C.sz = j * C.sz + k by rw [Nat.add_mul]; omega, all_get l j k (by simpa using h) hk]
  rfl
theorem Code.all_at (l : List α) {i : Nat} {u : Value} (h : (C.all l)[i]? = some u) : ∃ (j k : Nat) (hj : j < l.length), i = j * C.sz + k ∧ k < C.sz ∧ (C.enc l[j])[k]? = some u := by
 have hi : i < l.length * C.sz := by rw [← C.all_length]; exact (List.getElem?_eq_some_iff.1 h).1
 have hp := C.pos
 have hj : i / C.sz < l.length := Nat.div_lt_of_lt_mul (by rw [Nat.mul_comm]; exact hi)
 have e : i = i / C.sz * C.sz + i % C.sz := by have := Nat.div_add_mod i C.sz; rw [Nat.mul_comm] at this; omega
 refine ⟨i / C.sz, i % C.sz, hj, e, Nat.mod_lt _ hp, ?_⟩
 rw [← C.all_get l _ _ hj (Nat.mod_lt _ hp), ← e]
 exact h
def ShowsG (w : World) (d : Nat) (v : Value) (l : List α) : Prop :=
  ∃ (A : Option Addr) (c : Nat), v = .slice A l.length c ∧ l.length ≤ c ∧ c ≤ maxLen ∧
    (0 < l.length → ∃ o, A = some ⟨d, o, none⟩ ∧ d < w.heap.size ∧ ∀ j (h : j < l.length) k, k < C.sz → w.cell? ⟨d, o + (j * C.sz + k), none⟩ = (C.enc l[j])[k]?)
def OwnG (e : TypeId) (w : World) (base : Nat) (v : Value) (l : List α) : Prop := w.ownsRow base e C.sz v l.length (C.all l)
end
section
variable {α : Type} {C : Code α} {w w' : World} {d base : Nat} {v : Value} {l : List α} {e : TypeId}
theorem ShowsG.keep (h : ShowsG C w d v l) (hs : w.heap.size ≤ w'.heap.size) (hk : 0 < l.length → w'.heap[d]? = w.heap[d]?) : ShowsG C w' d v l := by
 obtain ⟨A, c, e1, e2, e3, e4⟩ := h
 refine ⟨A, c, e1, e2, e3, fun hp => ?_⟩
 obtain ⟨o, f1, f2, f3⟩ := e4 hp
 exact ⟨o, f1, by omega, fun j hj k hkk => (World.cell?_of_block (w := w) (hk hp)).trans (f3 j hj k hkk)⟩
theorem ShowsG.lt (h : ShowsG C w d v l) (hp : 0 < l.length) : d < w.heap.size := by
 obtain ⟨A, c, e1, e2, e3, e4⟩ := h
 exact (e4 hp).choose_spec.2.1
theorem ShowsG.below' {w0 : World} {B : Nat} (h : ShowsG C w0 d v l) (hb : Below B w0 w') (hB : w0.heap.size ≤ B) : ShowsG C w' d v l := h.keep hb.size fun hp => hb.block d (Nat.lt_of_lt_of_le (h.lt hp) hB)
theorem ShowsG.at_ {A : Option Addr} {n c : Nat} (h : ShowsG C w d (.slice A n c) l) (hp : 0 < l.length) : ∃ o, A = some ⟨d, o, none⟩ ∧ d < w.heap.size ∧ ∀ j (h : j < l.length) k, k < C.sz → w.cell? ⟨d, o + (j * C.sz + k), none⟩ = (C.enc l[j])[k]? := by
 obtain ⟨A', c', e, h2, h3, h4⟩ := h
 cases e
 exact h4 hp
theorem ShowsG.lens {A : Option Addr} {n c : Nat} (h : ShowsG C w d (.slice A n c) l) : l.length = n ∧ n ≤ c ∧ c ≤ maxLen := by
 obtain ⟨A', c', e, h2, h3, h4⟩ := h
 cases e
 exact ⟨rfl, h2, h3⟩
theorem OwnG.nil_ (C : Code α) (e : TypeId) (w : World) (base : Nat) : OwnG C e w base (.slice none 0 0) [] := World.ownsRow_nil w base e C.sz
theorem ShowsG.nil_ (C : Code α) (w : World) (d : Nat) : ShowsG C w d (.slice none 0 0) [] := ⟨none, 0, rfl, Nat.le_refl _, by simp [maxLen], fun h => absurd h (by simp)⟩
theorem OwnG.shows (h : OwnG C e w base v l) : ∃ g, (0 < l.length → base ≤ g) ∧ ShowsG C w g v l := by
 rcases h.2 with ⟨rfl, hn⟩ | ⟨g, cap, cur, rfl, hb, hg, hnc, hcm, hcs, ht⟩
 ·have : l = [] := List.eq_nil_of_length_eq_zero hn
  subst this
  exact ⟨base, fun _ => Nat.le_refl _, ShowsG.nil_ _ _ _⟩
 ·refine ⟨g, fun _ => hb, some ⟨g, 0, none⟩, cap, rfl, hnc, hcm, fun hp => ⟨0, rfl, (Array.getElem?_eq_some_iff.1 hg).1, fun j hj k hk => ?_⟩⟩
  rw [cell_of_row w g (0 + (j * C.sz + k)) cur e (0, 0) hg, ← C.all_get l j k hj hk, ← ht, List.getElem?_take, if_pos]
  ·simp
  ·have : (j + 1) * C.sz ≤ l.length * C.sz := Nat.mul_le_mul_right _ hj
   rw [Nat.add_mul] at this
   omega
theorem OwnG.keep (h : OwnG C e w base v l) (hk : ∀ g, v.ownBlock = some g → w'.heap[g]? = w.heap[g]?) : OwnG C e w' base v l := by
 refine ⟨h.1, ?_⟩
 rcases h.2 with hn | ⟨g, cap, cur, rfl, hb, hg, r⟩
 ·exact .inl hn
 ·exact .inr ⟨g, cap, cur, rfl, hb, (hk g rfl).trans hg, r⟩
theorem OwnG.block (h : OwnG C e w base v l) : ∀ g, v.ownBlock = some g → base ≤ g ∧ g < w.heap.size := World.ownsRow.lt h
theorem OwnG.below {B : Nat} (h : OwnG C e w base v l) (hb : Below B w w') (hB : w.heap.size ≤ B) : OwnG C e w' base v l := h.keep fun g hg => hb.block g (Nat.lt_of_lt_of_le (h.block g hg).2 hB)
theorem OwnG.form (h : OwnG C e w base v l) : ∃ A c, v = .slice A l.length c ∧ l.length ≤ c ∧ c ≤ maxLen := by
 rcases h.2 with ⟨rfl, hn⟩ | ⟨g, cap, cur, rfl, hb, hg, hnc, hcm, _⟩
 ·have : l = [] := List.eq_nil_of_length_eq_zero hn
  subst this
  exact ⟨none, 0, rfl, Nat.le_refl _, by simp [maxLen]⟩
 ·exact ⟨_, _, rfl, hnc, hcm⟩
theorem OwnG.len_ {n c : Nat} {A : Option Addr} (h : OwnG C e w base (.slice A n c) l) : l.length = n ∧ n ≤ c ∧ c ≤ maxLen := by
 obtain ⟨A', c', h1, h2, h3⟩ := h.form
 cases h1
 exact ⟨rfl, h2, h3⟩
theorem OwnG.alloc_ (h : OwnG C e w base v l) (o : Obj) : OwnG C e (w.alloc o) base v l := World.ownsRow.alloc h o
theorem OwnG.at_ {n c : Nat} {A : Option Addr} (h : OwnG C e w base (.slice A n c) l) (hp : 0 < n) :
  ∃ b, A = some ⟨b, 0, none⟩ ∧ base ≤ b ∧ b < w.heap.size ∧ (∀ j, w.frozen? ⟨b, j, none⟩ = false) ∧ ∀ j (hj : j < l.length) k, k < C.sz → w.cell? ⟨b, j * C.sz + k, none⟩ = (C.enc l[j])[k]? := by
 obtain ⟨h1, _⟩ := h.len_
 rcases h.2 with ⟨h1, h2⟩ | ⟨b, cap, cur, h1, hb, hg, _⟩
 ·cases h1; omega
 ·cases h1
  refine ⟨b, rfl, hb, (Array.getElem?_eq_some_iff.1 hg).1, fun j => frozen_of_row w b j cur e hg, fun j hj k hk => ?_⟩
  have hlt : j * C.sz + k < l.length * C.sz := by
   have : (j + 1) * C.sz ≤ l.length * C.sz := Nat.mul_le_mul_right _ hj
   rw [Nat.add_mul] at this
   omega
  rw [World.ownsRow.cellAt h _ hlt]
  exact C.all_get l j k hj hk
theorem OwnG.lit {cs : Array Value} (l : List α) (h : cs = (C.all l).toArray) (hl : l.length ≤ maxLen) (hb : base ≤ w.heap.size) :
  OwnG C e (w.alloc (.cells cs e)) base (.slice (some ⟨w.heap.size, 0, none⟩) l.length l.length) l := by
 subst h
 refine ⟨C.all_length l, .inr ⟨w.heap.size, _, _, rfl, hb, heap_alloc_new w _, Nat.le_refl _, hl, ?_, ?_⟩⟩
 ·simp [C.all_length]
 ·rw [← C.all_length]
  simp
theorem ShowsG.lit {cs : Array Value} (l : List α) (h : cs = (C.all l).toArray) (hl : l.length ≤ maxLen) :
  ShowsG C (w.alloc (.cells cs e)) w.heap.size (.slice (some ⟨w.heap.size, 0, none⟩) l.length l.length) l := by
 subst h
 refine ⟨_, _, rfl, Nat.le_refl _, hl, fun hp => ⟨0, rfl, by simp, fun j hj k hk => ?_⟩⟩
 rw [cell_of_row _ _ (0 + (j * C.sz + k)) _ e (0, 0) (heap_alloc_new w _), ← C.all_get l j k hj hk]
 simp
theorem run_appendG {P : Program} (t ty : TypeId) (i : TypeInfo) (z : Value) (bytes : Nat) (ht : P.underlying t = some (.slice e)) (hi : P.info? e = some i) (hz : i.zero = some z)
  (hsize : i.size = C.sz) (hby : i.bytes = bytes) (hzs : z.cells.size = C.sz) (hown : OwnG C e w base v l) (x : Value) (m : List α) (hx : ShowsG C w d x m)
  (hb : (l.length + m.length) * bytes ≤ 140737488355328) (hb63 : l.length + m.length ≤ maxLen) (hbase : base ≤ w.heap.size) :
  ∃ v' w', (Builtin.append_ #[t, t] ty #[v, x]).run P w = .ok v' w' ∧ OwnG C e w' base v' (l ++ m) ∧ w.grownBy w' v.ownBlock := by
 obtain ⟨A, c, rfl, hmc, hcm, hcell⟩ := hx
 by_cases hm : 0 < m.length
 ·obtain ⟨o, rfl, _, hc⟩ := hcell hm
  obtain ⟨v', w', h1, h2, h3, _⟩ := run_append_own (P := P) w base t ty e i z C.sz bytes ht hi hz hsize hby hzs C.pos v l.length (C.all l) hown ⟨d, o, none⟩ m.length c (C.all m) (C.all_length m)
   (fun j u hu => by obtain ⟨q, k, hq, rfl, hk, hu'⟩ := C.all_at m hu; rw [add_plain', hc q hq k hk]; exact hu') (C.all_one m) hb63 hb hbase
  refine ⟨v', w', h1, ?_, h3⟩
  unfold OwnG
  rw [C.all_append, List.length_append]
  exact h2
 ·have : m = [] := List.eq_nil_of_length_eq_zero (by omega)
  subst this
  rw [List.append_nil]
  refine ⟨v, w, ?_, hown, ⟨rfl, rfl, rfl, Nat.le_refl _, fun _ _ _ => rfl⟩⟩
  have h0 : ∀ a : Addr, (loadCells a 0).run P w = .ok #[] w := fun a => by simpa using run_loadCells_list (P := P) w a [] (by simp)
  rcases hown.2 with ⟨rfl, hn⟩ | ⟨g, cap, cur, rfl, _, _, hnc, _⟩
  ·rcases A with _ | a <;> simp [Builtin.append_, run_underlying ht, sizeOf, typeInfo, hi, Builtin.lenOf, Builtin.firstCells, h0]
  ·rcases A with _ | a <;> simp [Builtin.append_, run_underlying ht, sizeOf, typeInfo, hi, Builtin.lenOf, Builtin.firstCells, hnc, storeCells, h0]
end
def natC (k : IntKind) : Code Nat := { enc := fun n => [.int k n], sz := 1, len := fun _ => rfl, one := fun x u hu => by simp at hu; subst hu; rfl, pos := by omega }
def pairC (k : IntKind) : Code (Nat × Nat) := { enc := fun s => [.int k s.1, .int k s.2], sz := 2, len := fun _ => rfl, one := fun x u hu => by simp at hu; rcases hu with rfl | rfl <;> rfl, pos := by omega }
end Go.Proofs.YtdklhcmoilcpgaaGreat
namespace Go.Proofs.YtdklhcmoilcpgaaGreat
open Go.RowKit
theorem Own.lit {w : World} {base : Nat} {e : TypeId} {cs : Array Value} (l : List UInt8) (h : cs = (bs l).toArray) (hl : l.length ≤ maxLen) (hb : base ≤ w.heap.size) :
  Own e (w.alloc (.cells cs e)) base (.slice (some ⟨w.heap.size, 0, none⟩) l.length l.length) l := by
 subst h
 have := World.ownsRow_lit (w := w) (e := e) (base := base) (size := 1) (bs l).toArray l.length hb hl (by simp [bs])
 simpa [Own] using this
end Go.Proofs.YtdklhcmoilcpgaaGreat
