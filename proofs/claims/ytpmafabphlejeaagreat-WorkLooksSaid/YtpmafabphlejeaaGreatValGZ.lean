/-
  Texts, together: ValG, ValH, ValW.
  Conditions: none but sizes.
-/
import Derived.WalkLawsBesides
import Derived.Test.YtpmafabphlejeaaGreatValDZ
import Derived.Test.YtpmafabphlejeaaGreatOctAZ
import Derived.Deep.RegionWith
import Derived.Deep.CutBlock
import Derived.StillTailTactics
import Derived.Deep.CutRange
import Derived.Deep.DeepCutAuto
import Derived.Laws.ResultCell
import Derived.Test.YtpmafabphlejeaaGreatRefRdZ
/-
  Words for values that are read: worlds in which single blocks are masked; values in rows of the call's own; the pure reading of values (valP); the contract of value.must.
  Conditions: none.
-/
namespace Go.Proofs.YtpmafabphlejeaaGreat
open Go.RowKit
set_option linter.unusedVariables false
set_option linter.unusedSimpArgs false

/-! ### cells that stay; a world of which the old blocks are masked -/
/-- What can be read in w can be read in w'. -/
def Sub (w w' : World) : Prop := w.heap.size ≤ w'.heap.size ∧ ∀ (k i : Nat) (v : Value), w.cell? ⟨k, i, none⟩ = some v → w'.cell? ⟨k, i, none⟩ = some v
theorem ShowsG.sub {α : Type} {C : Code α} {d : Nat} {w w' : World} {v : Value} {l : List α} (h : ShowsG C w d v l) (hs : Sub w w') : ShowsG C w' d v l := by
  obtain ⟨A, c, e1, e2, e3, e4⟩ := h
  refine ⟨A, c, e1, e2, e3, fun hp => ?_⟩
  obtain ⟨o, f1, f2, f3⟩ := e4 hp
  refine ⟨o, f1, Nat.lt_of_lt_of_le f2 hs.1, fun j hj k hk => ?_⟩
  have := f3 j hj k hk
  have hkk : k < (C.enc l[j]).length := by rw [C.len]; exact hk
  obtain ⟨u, hu⟩ : ∃ u, (C.enc l[j])[k]? = some u := ⟨_, List.getElem?_eq_getElem hkk⟩
  rw [hu] at this ⊢
  exact hs.2 _ _ _ this
theorem ShowsT.sub {w w' : World} {t : Tree} {vs : List Value} (h : ShowsT w t vs) (hs : Sub w w') : ShowsT w' t vs := by
  induction h with
  | @mk k n s ks l kv A c d0 d1 cs hk hn hks hkl hkz hsz hln hlc hcm hrow hch ih =>
    refine .mk (d0 := d0) (d1 := d1) cs hk hn (hks.sub hs) hkl hkz hsz hln hlc hcm (fun hp => ?_) ih
    obtain ⟨o, e1, e2, e3⟩ := hrow hp
    refine ⟨o, e1, Nat.lt_of_lt_of_le e2 hs.1, fun j hj q hq => ?_⟩
    have := e3 j hj q hq
    have hqq : q < (cs j).length := by rw [(hch j hj).len]; exact hq
    obtain ⟨u, hu⟩ : ∃ u, (cs j)[q]? = some u := ⟨_, List.getElem?_eq_getElem hqq⟩
    rw [hu] at this ⊢
    exact hs.2 _ _ _ this
theorem ListT.sub {w w' : World} {l : List Tree} {A : Option Addr} {c : Nat} (h : ListT w l A c) (hs : Sub w w') : ListT w' l A c :=
  ⟨h.lm, h.lc, h.cm, fun j hj => by
    obtain ⟨d, o, v0, v1, v2, v3, v4, e, hd, hsh, c0, c1, c2, c3, c4⟩ := h.at_ j hj
    exact ⟨d, o, v0, v1, v2, v3, v4, e, Nat.lt_of_lt_of_le hd hs.1, hsh.sub hs, hs.2 _ _ _ c0, hs.2 _ _ _ c1, hs.2 _ _ _ c2, hs.2 _ _ _ c3, hs.2 _ _ _ c4⟩⟩

/-- The world, the blocks below B masked. -/
def lowm (B : Nat) (w : World) : World := { w with heap := w.heap.mapIdx fun i o => if i < B then .cells #[] 0 (0, 0) else o }
theorem lowm_size (B : Nat) (w : World) : (lowm B w).heap.size = w.heap.size := by simp [lowm]
theorem lowm_hi {B k : Nat} {w : World} (h : B ≤ k) : (lowm B w).heap[k]? = w.heap[k]? := by
  simp only [lowm, Array.getElem?_mapIdx]
  cases w.heap[k]? with
  | none => rfl
  | some o => simp [Nat.not_lt.2 h]
theorem lowm_lo {B k : Nat} {w : World} (h : k < B) {i : Nat} {v : Value} : (lowm B w).cell? ⟨k, i, none⟩ ≠ some v := by
  intro hc
  by_cases hs : k < w.heap.size
  · have e : (lowm B w).heap[k]? = some (.cells #[] 0 (0, 0)) := by simp [lowm, Array.getElem?_mapIdx, hs, h]
    rw [cell_of_row _ k i _ 0 (0, 0) e] at hc
    simp at hc
  · have e : (lowm B w).heap[k]? = none := Array.getElem?_eq_none (by rw [lowm_size]; omega)
    simp [World.cell?, e] at hc
theorem low_sub {B : Nat} {w w' : World} (hs : w.heap.size ≤ w'.heap.size) (hb : ∀ k, B ≤ k → k < w.heap.size → w'.heap[k]? = w.heap[k]?) : Sub (lowm B w) (lowm B w') := by
  refine ⟨by rw [lowm_size, lowm_size]; exact hs, fun k i v h => ?_⟩
  by_cases hk : k < B
  · exact absurd h (lowm_lo hk)
  · have hkw : k < w.heap.size := by
      by_cases hkw : k < w.heap.size
      · exact hkw
      · have e : (lowm B w).heap[k]? = none := Array.getElem?_eq_none (by rw [lowm_size]; omega)
        simp [World.cell?, e] at h
    rw [← h]
    have hkB : B ≤ k := by omega
    exact World.cell?_of_block (w := lowm B w) (by show (lowm B w').heap[k]? = _; rw [lowm_hi hkB, lowm_hi hkB]; exact hb k hkB hkw)
theorem low_anti {B B' : Nat} {w : World} (h : B ≤ B') : Sub (lowm B' w) (lowm B w) := by
  refine ⟨by rw [lowm_size, lowm_size]; exact Nat.le_refl _, fun k i v hc => ?_⟩
  by_cases hk : k < B'
  · exact absurd hc (lowm_lo hk)
  · rw [← hc]
    have hkB : B' ≤ k := by omega
    exact World.cell?_of_block (w := lowm B' w) (by show (lowm B w).heap[k]? = (lowm B' w).heap[k]?; rw [lowm_hi hkB, lowm_hi (Nat.le_trans h hkB)])
theorem low_out (B : Nat) (w : World) : Sub (lowm B w) w := by
  refine ⟨by rw [lowm_size]; exact Nat.le_refl _, fun k i v hc => ?_⟩
  by_cases hk : k < B
  · exact absurd hc (lowm_lo hk)
  · rw [← hc]
    have hkB : B ≤ k := by omega
    exact World.cell?_of_block (w := lowm B w) (by show w.heap[k]? = (lowm B w).heap[k]?; rw [lowm_hi hkB])
theorem OwnG.low {α : Type} {C : Code α} {e : TypeId} {w : World} {base B : Nat} {v : Value} {l : List α} (h : OwnG C e w base v l) (hB : B ≤ base) : OwnG C e (lowm B w) base v l :=
  h.keep fun g hg => lowm_hi (by have := (h.block g hg).1; omega)

/-- All but two blocks are as they were. -/
structure Frm2 (b g : Nat) (w w' : World) : Prop where
  os : w'.os = w.os
  tape : w'.tape = w.tape
  output : w'.output = w.output
  size : w.heap.size ≤ w'.heap.size
  block : ∀ k, k < w.heap.size → k ≠ b → k ≠ g → w'.heap[k]? = w.heap[k]?
theorem Frm2.refl (b g : Nat) (w : World) : Frm2 b g w w := ⟨rfl, rfl, rfl, Nat.le_refl _, fun _ _ _ _ => rfl⟩
theorem Frm2.trans {b g : Nat} {a w w' : World} (h : Frm2 b g a w) (k : Frm2 b g w w') : Frm2 b g a w' :=
  ⟨k.os.trans h.os, k.tape.trans h.tape, k.output.trans h.output, Nat.le_trans h.size k.size, fun i hi h1 h2 => (k.block i (Nat.lt_of_lt_of_le hi h.size) h1 h2).trans (h.block i hi h1 h2)⟩
theorem Frm2.of_grown {b g : Nat} {w w' : World} (h : w.grownBy w' (some g)) : Frm2 b g w w' := ⟨h.os, h.tape, h.output, h.size, fun k hk _ h2 => h.block k hk (fun e => h2 (Option.some.inj e))⟩
theorem Frm2.of_below {b g : Nat} {w w' : World} (h : Below w.heap.size w w') : Frm2 b g w w' := ⟨h.os, h.tape, h.output, h.size, fun k hk _ _ => h.block k hk⟩
/-- Memory that is new since 'base' may be written: what was there before is as it was. -/
theorem Frm2.grown {b g : Nat} {a w w' : World} {row : Option Nat} (h : Frm2 b g a w) (hg : w.grownBy w' row) (hr : ∀ k, row = some k → a.heap.size ≤ k) : Frm2 b g a w' :=
  ⟨hg.os.trans h.os, hg.tape.trans h.tape, hg.output.trans h.output, Nat.le_trans h.size hg.size, fun k hk h1 h2 => (hg.block k (Nat.lt_of_lt_of_le hk h.size) (fun e => by have := hr k e.symm; omega)).trans (h.block k hk h1 h2)⟩
/-- What lies above all old blocks stays, whatever the two old ones do. -/
theorem Frm2.low {b g B : Nat} {w w' : World} (h : Frm2 b g w w') (hb : b < B) (hg : g < B) : Sub (lowm B w) (lowm B w') :=
  low_sub h.size fun k hk hkw => h.block k hkw (by omega) (by omega)
theorem Frm2.set {b g : Nat} {a w : World} (h : Frm2 b g a w) {p : Nat} (hp : a.heap.size ≤ p) (i : Nat) (u : Value) : Frm2 b g a (w.setCell ⟨p, i, none⟩ u) :=
  ⟨h.os, h.tape, h.output, by simpa using h.size, fun k hk h1 h2 => (Below.heap_setCell _ _ _ _ (by show k ≠ p; omega)).trans (h.block k hk h1 h2)⟩
theorem low_set {B : Nat} {w : World} {p : Nat} (hp : p < B) (i : Nat) (u : Value) : Sub (lowm B w) (lowm B (w.setCell ⟨p, i, none⟩ u)) :=
  low_sub (by simp) fun k hk _ => Below.heap_setCell _ _ _ _ (by show k ≠ p; omega)
theorem Sub.trans {a b c : World} (h : Sub a b) (k : Sub b c) : Sub a c := ⟨Nat.le_trans h.1 k.1, fun x i v hv => k.2 _ _ _ (h.2 _ _ _ hv)⟩

/-! ### values in rows of the call's own -/
/-- The parts of a value's cells. -/
structure Cell5 where
  k : Nat
  n : Nat
  s : ByteArray
  a3 : Option Addr
  n3 : Nat
  c3 : Nat
  a4 : Option Addr
  n4 : Nat
  c4 : Nat
def Cell5.vs (x : Cell5) : List Value := [.int .u8 x.k, .int .u64 x.n, .string x.s, .slice x.a3 x.n3 x.c3, .slice x.a4 x.n4 x.c4]
def valC : Code Cell5 := { enc := Cell5.vs, sz := 5, len := fun _ => rfl, one := fun x u hu => by simp [Cell5.vs] at hu; rcases hu with rfl | rfl | rfl | rfl | rfl <;> rfl, pos := by omega }
theorem ShowsT.cell5 {w : World} {t : Tree} {vs : List Value} (h : ShowsT w t vs) : ∃ x : Cell5, vs = x.vs := by
  obtain ⟨kv, A, c, d0, d1, cs, rfl, _, _, hks, _⟩ := h.open
  obtain ⟨A3, c3, rfl⟩ := str_form hks
  exact ⟨⟨t.k, t.n, t.s, A3, _, c3, A, _, c⟩, rfl⟩
theorem infoVal : (Tryz.prog.info? 31).map (fun i => (i.zero, i.size, i.bytes)) = some (some (.agg #[.int .u8 0, .int .u64 0, .string ⟨#[]⟩, .slice none 0 0, .slice none 0 0]), 5, 80) := by kernel_rfl
theorem infoStr : (Tryz.prog.info? 9).map (fun i => (i.zero, i.size, i.bytes)) = some (some (.string ⟨#[]⟩), 1, 16) := by kernel_rfl

/-- Values that lie in a row of the call's own are shown. -/
theorem listT_own {w : World} {base : Nat} {v : Value} {xs : List Cell5} {l : List Tree} (h : OwnG valC 31 w base v xs) (hl : xs.length = l.length) (hm : l.length ≤ 2199023255552)
    (hs : ∀ j (hj : j < l.length), ShowsT w l[j] (xs[j]'(by omega)).vs) : ∃ A c, v = .slice A l.length c ∧ ListT w l A c := by
  obtain ⟨g, _, A, c, rfl, h2, h3, h4⟩ := h.shows
  have e : Value.slice A xs.length c = .slice A l.length c := by simp [hl]
  refine ⟨A, c, e, hm, by omega, h3, fun j hj => ?_⟩
  obtain ⟨o, rfl, hd, hc⟩ := h4 (by omega)
  have hj' : j < xs.length := by omega
  have key := fun q hq => hc j hj' q hq
  exact ⟨g, o, _, _, _, _, _, rfl, hd, hs j hj, key 0 (by decide), key 1 (by decide), key 2 (by decide), key 3 (by decide), key 4 (by decide)⟩

/-! ### reading, without a program -/
abbrev St := Option (List UInt8)
def finP (t : Tree) (m : Nat) (s : St) : Option (Tree × Nat × St) := if s = none then none else some (t, m, s)
/-- c values, each by v, with keys or without: their keys, they, what is left. -/
def itemsP (v : Nat → St → Option (Tree × Nat × St)) (keys : Bool) : Nat → Nat → St → Option (List ByteArray × List Tree × Nat × St)
  | 0, m, s => some ([], [], m, s)
  | c + 1, m, s =>
    match v m (if keys = true then (textS 1 255 s).2 else s) with
    | none => none
    | some (t, m', s') =>
      match itemsP v keys c m' s' with
      | none => none
      | some (ks, l, r) => some ((if keys = true then [str8 (textS 1 255 s).1] else []) ++ ks, t :: l, r)
def listP (v : Nat → St → Option (Tree × Nat × St)) (k : Nat) (keys : Bool) (m : Nat) (s : St) : Option (Tree × Nat × St) :=
  match itemsP v keys (numS 4 (numS 4 s).2).1 m (numS 4 (numS 4 s).2).2 with
  | none => none
  | some (ks, l, m', s') => if lenS (numS 4 s).2 - lenS s' = (numS 4 s).1 then finP (.node k 0 ⟨#[]⟩ ks l) m' s' else none
/-- A value, of m that there may be. -/
def valP : Nat → Nat → St → Option (Tree × Nat × St)
  | 0, _, _ => none
  | _ + 1, 0, _ => none
  | f + 1, m + 1, s =>
    if 0 < (layD (numS 1 s).1).num then finP (.node (numS 1 s).1 (numS (layD (numS 1 s).1).num (numS 1 s).2).1 ⟨#[]⟩ [] []) m (numS (layD (numS 1 s).1).num (numS 1 s).2).2
    else if 0 < (layD (numS 1 s).1).text then finP (.node (numS 1 s).1 0 (str8 (textS (layD (numS 1 s).1).text (layD (numS 1 s).1).bytes (numS 1 s).2).1) [] []) m (textS (layD (numS 1 s).1).text (layD (numS 1 s).1).bytes (numS 1 s).2).2
    else if (layD (numS 1 s).1).list = true then listP (valP f) (numS 1 s).1 (layD (numS 1 s).1).keys m (numS 1 s).2
    else finP (.node (numS 1 s).1 0 ⟨#[]⟩ [] []) m (numS 1 s).2

/-! ### giving up -/
end Go.Proofs.YtpmafabphlejeaaGreat
/-
  The contracts of the reader's two methods of package value, value and elements.
  Conditions: at most 880000 bytes are left, at most 200 values.
-/
namespace Go.Proofs.YtpmafabphlejeaaGreat
open Go.RowKit
set_option linter.unusedVariables false
set_option linter.unusedSimpArgs false

theorem Frm2.less (b g : Nat) (w : World) (i : Nat) (u : Value) : Frm2 b g w (w.setCell ⟨b, i, none⟩ u) :=
  ⟨rfl, rfl, rfl, by simp, fun k _ h1 _ => Below.heap_setCell _ _ _ _ h1⟩

theorem Frm2.drew {b g : Nat} {a w : World} (h : Frm2 b g a w) : Frm2 b g a w.drew := ⟨h.os, h.tape, h.output, h.size, h.block⟩
theorem takeS_fst_le (n : Int) (s : St) : (takeS n s).1.length ≤ lenS s := by
  cases s with
  | none => simp [takeS]
  | some l => simp only [takeS]; split <;> simp [lenS] <;> omega
theorem textT_fst_le (most : Int) (p : Nat × St) : (textT most p).1.length ≤ lenS p.2 := by
  unfold textT
  split
  · exact Nat.zero_le _
  · exact takeS_fst_le _ _
theorem textS_fst_le (q most : Int) (s : St) : (textS q most s).1.length ≤ lenS s := Nat.le_trans (textT_fst_le _ _) (numS_lenS _ _)

theorem numS1_lt (s : St) : (numS 1 s).1 < 256 := by
  unfold numS
  rw [if_pos (by decide)]
  have h1 := numOf_lt (takeS 1 s).1
  have h2 := takeS_len 1 s
  have h3 : (takeS 1 s).1.length ≤ 1 := by omega
  exact Nat.lt_of_lt_of_le h1 (Nat.le_trans (Nat.pow_le_pow_right (by omega) h3) (by decide))

end Go.Proofs.YtpmafabphlejeaaGreat
/-
  Words for rows of the call's own beside other memory of its own: worlds of which all blocks but some are masked; where an append leaves its row.
  Conditions: none. Nothing here speaks of the program.
-/
namespace Go.Proofs.YtpmafabphlejeaaGreat
open Go.RowKit
set_option linter.unusedVariables false
set_option linter.unusedSimpArgs false

theorem ShowsT.cells5 {w : World} {t : Tree} {vs : List Value} (h : ShowsT w t vs) : ∃ k n s a3 n3 c3 a4 n4 c4, vs = [.int .u8 (k : Nat), .int .u64 (n : Nat), .string s, .slice a3 n3 c3, .slice a4 n4 c4] := by
  obtain ⟨x, rfl⟩ := h.cell5
  exact ⟨_, _, _, _, _, _, _, _, _, rfl⟩

open Classical in
/-- The world, all blocks but those in P masked. -/
noncomputable def pm (P : Nat → Prop) (w : World) : World := { w with heap := w.heap.mapIdx fun i o => if P i then o else .cells #[] 0 (0, 0) }
theorem pm_size (P : Nat → Prop) (w : World) : (pm P w).heap.size = w.heap.size := by simp [pm]
theorem pm_hi {P : Nat → Prop} {k : Nat} {w : World} (h : P k) : (pm P w).heap[k]? = w.heap[k]? := by
  simp only [pm, Array.getElem?_mapIdx]
  cases w.heap[k]? with
  | none => rfl
  | some o => simp [h]
theorem pm_lo {P : Nat → Prop} {k : Nat} {w : World} (h : ¬ P k) {i : Nat} {v : Value} : (pm P w).cell? ⟨k, i, none⟩ ≠ some v := by
  intro hc
  by_cases hs : k < w.heap.size
  · have e : (pm P w).heap[k]? = some (.cells #[] 0 (0, 0)) := by simp [pm, Array.getElem?_mapIdx, hs, h]
    rw [cell_of_row _ k i _ 0 (0, 0) e] at hc
    simp at hc
  · have e : (pm P w).heap[k]? = none := Array.getElem?_eq_none (by rw [pm_size]; omega)
    simp [World.cell?, e] at hc
theorem pm_lt {P : Nat → Prop} {k i : Nat} {w : World} {v : Value} (h : (pm P w).cell? ⟨k, i, none⟩ = some v) : P k ∧ k < w.heap.size := by
  refine ⟨Classical.byContradiction fun hp => pm_lo hp h, ?_⟩
  by_cases hkw : k < w.heap.size
  · exact hkw
  · have e : (pm P w).heap[k]? = none := Array.getElem?_eq_none (by rw [pm_size]; omega)
    simp [World.cell?, e] at h
theorem low_lt {B k i : Nat} {w : World} {v : Value} (h : (lowm B w).cell? ⟨k, i, none⟩ = some v) : B ≤ k ∧ k < w.heap.size := by
  refine ⟨Classical.byContradiction fun hp => lowm_lo (by omega) h, ?_⟩
  by_cases hkw : k < w.heap.size
  · exact hkw
  · have e : (lowm B w).heap[k]? = none := Array.getElem?_eq_none (by rw [lowm_size]; omega)
    simp [World.cell?, e] at h
theorem pm_pm {P Q : Nat → Prop} {w w' : World} (hs : w.heap.size ≤ w'.heap.size) (h : ∀ k, P k → k < w.heap.size → Q k ∧ w'.heap[k]? = w.heap[k]?) : Sub (pm P w) (pm Q w') := by
  refine ⟨by rw [pm_size, pm_size]; exact hs, fun k i v hc => ?_⟩
  obtain ⟨hP, hk⟩ := pm_lt hc
  obtain ⟨hQ, he⟩ := h k hP hk
  rw [← hc]
  exact World.cell?_of_block (w := pm P w) (by show (pm Q w').heap[k]? = (pm P w).heap[k]?; rw [pm_hi hQ, pm_hi hP, he])
theorem low_pm {B : Nat} {Q : Nat → Prop} {w w' : World} (hs : w.heap.size ≤ w'.heap.size) (h : ∀ k, B ≤ k → k < w.heap.size → Q k ∧ w'.heap[k]? = w.heap[k]?) : Sub (lowm B w) (pm Q w') := by
  refine ⟨by rw [lowm_size, pm_size]; exact hs, fun k i v hc => ?_⟩
  obtain ⟨hP, hk⟩ := low_lt hc
  obtain ⟨hQ, he⟩ := h k hP hk
  rw [← hc]
  exact World.cell?_of_block (w := lowm B w) (by show (pm Q w').heap[k]? = (lowm B w).heap[k]?; rw [pm_hi hQ, lowm_hi hP, he])
theorem pm_low {B : Nat} {P : Nat → Prop} {w : World} (h : ∀ k, P k → B ≤ k) : Sub (pm P w) (lowm B w) := by
  refine ⟨by rw [lowm_size, pm_size]; exact Nat.le_refl _, fun k i v hc => ?_⟩
  obtain ⟨hP, hk⟩ := pm_lt hc
  rw [← hc]
  exact World.cell?_of_block (w := pm P w) (by show (lowm B w).heap[k]? = (pm P w).heap[k]?; rw [pm_hi hP, lowm_hi (h k hP)])

/-- Blocks from B on that are neither of two rows. -/
def Free (B : Nat) (v1 v2 : Value) (k : Nat) : Prop := B ≤ k ∧ v1.ownBlock ≠ some k ∧ v2.ownBlock ≠ some k
/-- The two rows lie apart. -/
def Apart (v1 v2 : Value) : Prop := ∀ k, v1.ownBlock = some k → v2.ownBlock ≠ some k
theorem Apart.symm {v1 v2 : Value} (h : Apart v1 v2) : Apart v2 v1 := fun k h1 h2 => h k h2 h1

section
variable {α : Type} {C : Code α} {e : TypeId} {w : World} {base : Nat} {v : Value} {l : List α}
/-- Where an append of something leaves its row: where it was, or in a new block. -/
theorem append_where {P : Program} (t ty : TypeId) (i : TypeInfo) (z : Value) (bytes : Nat) (ht : P.underlying t = some (.slice e)) (hi : P.info? e = some i) (hz : i.zero = some z)
    (hsize : i.size = C.sz) (hby : i.bytes = bytes) (hown : OwnG C e w base v l) (x : Value) (m : List α) (d : Nat) (hx : ShowsG C w d x m) (hm : 0 < m.length)
    (hb : (l.length + m.length) * bytes ≤ 140737488355328) (hb63 : l.length + m.length ≤ maxLen) (v' : Value) (w' : World) (hr : (Builtin.append_ #[t, t] ty #[v, x]).run P w = .ok v' w') :
    v'.ownBlock = v.ownBlock ∨ v'.ownBlock = some w.heap.size := by
  obtain ⟨A, c, rfl, hmc, hcm, hcell⟩ := hx
  obtain ⟨o, rfl, _, hc⟩ := hcell hm
  have hnews : ∀ (j : Nat) (u : Value), (C.all m)[j]? = some u → w.cell? ((⟨d, o, none⟩ : Addr).add j) = some u := fun j u hu => by
    obtain ⟨q, k, hq, rfl, hk, hu'⟩ := C.all_at m hu
    rw [add_plain', hc q hq k hk]
    exact hu'
  have hsm : l.length + m.length ≤ 9223372036854775807 := by simp only [maxLen] at hb63; omega
  have h0 := hown.2
  rcases h0 with ⟨rfl, hn⟩ | ⟨g, cap, cur, rfl, hbg, hg, hnc, hcm', hcs, htake⟩
  · have hr2 := run_append_nil (P := P) w t ty e i z ht hi hz ⟨d, o, none⟩ m.length c (C.all m) (by rw [C.all_length, hsize]) hnews hm (by omega) (by rw [hby]; have := hb; rw [hn, Nat.zero_add] at this; omega)
    rw [hr] at hr2
    injection hr2 with h1 _
    subst h1
    exact .inr rfl
  · by_cases hroom : l.length + m.length ≤ cap
    · obtain ⟨w2, hr2, _⟩ := run_append_fits (P := P) w base t ty e i C.sz ht hi hsize g l.length cap (C.all l) hown ⟨d, o, none⟩ m.length c (C.all m) (C.all_length m) hnews (C.all_one m) hroom
      rw [hr] at hr2
      injection hr2 with h1 _
      subst h1
      exact .inl rfl
    · have holds : ∀ (j : Nat) (u : Value), (C.all l)[j]? = some u → w.cell? ((⟨g, 0, none⟩ : Addr).add j) = some u := World.ownsRow.cells (g := g) hown rfl
      have hr2 := run_append_grow (P := P) w t ty e i z ht hi hz ⟨g, 0, none⟩ l.length cap (C.all l) (by rw [C.all_length, hsize]) holds ⟨d, o, none⟩ m.length c (C.all m) (by rw [C.all_length, hsize]) hnews (by omega) (by omega) (growslice_fits (by omega) (by rw [hby]; exact hb))
      rw [hr] at hr2
      injection hr2 with h1 _
      subst h1
      exact .inr rfl

theorem wpList_appendW (C : Code α) {P : Program} (w : World) {ops : Array Oper} {rest : List Oper} {o : Oper} {a : Act} {Q : Exit → Act → World → Prop} (hgd : o.guard = none) (s x : Operand) (t : TypeId)
    (ho : o.op = .call { callee := .builtin .append, args := #[s, x], argTypes := #[t, t] })
    (base : Nat) (e : TypeId) (z : Value) (bytes : Nat) (ht : P.underlying t = some (.slice e)) (hi : (P.info? e).map (fun i => (i.zero, i.size, i.bytes)) = some (some z, C.sz, bytes)) (hzs : z.cells.size = C.sz)
    (v : Value) (l : List α) (hs : a.eval s = v) (hown : OwnG C e w base v l) (d : Nat) (y : Value) (m : List α) (hx : a.eval x = y) (hm : ShowsG C w d y m) (hm0 : 0 < m.length)
    (hb : (l.length + m.length) * bytes ≤ 140737488355328) (hb63 : l.length + m.length ≤ 140737488355328) (hbase : base ≤ w.heap.size)
    (h : ∀ v' w', OwnG C e w' base v' (l ++ m) → w.grownBy w' v.ownBlock → (v'.ownBlock = v.ownBlock ∨ v'.ownBlock = some w.heap.size) → wpList P ops Q rest (a.put o.dst v') w') : wpList P ops Q (o :: rest) a w := by
  obtain ⟨i, hi0, hz, hs1, hb1⟩ := info_parts hi
  obtain ⟨v', w', hr, h2, h3⟩ := run_appendG (P := P) (C := C) t o.type i z bytes ht hi0 hz hs1 hb1 hzs hown y m hm hb (by simp only [maxLen]; omega) hbase
  have h4 := append_where (P := P) (C := C) t o.type i z bytes ht hi0 hz hs1 hb1 hown y m d hm hm0 hb (by simp only [maxLen]; omega) v' w' hr
  refine wpList_plain hgd fun K hK => ?_
  unfold Oper.wp execOp
  simp only [ho, resolve, invoke, builtin, Sem.run_bind, Sem.run_pure, Result.andThen_ok, List.map_toArray, List.map_cons, List.map_nil, hs, hx, hr]
  exact hK _ _ (h v' w' h2 h3 h4)
end

/-- An append onto one of two rows leaves what lies beside them, and the rows apart. -/
theorem free_left {B : Nat} {v1 v1' v2 : Value} {w wa w' : World} (hwa : Below w.heap.size w wa) (hg : wa.grownBy w' v1.ownBlock) (h : v1'.ownBlock = v1.ownBlock ∨ v1'.ownBlock = some wa.heap.size) : Sub (pm (Free B v1 v2) w) (pm (Free B v1' v2) w') := by
  have hsz := hwa.size
  refine pm_pm (Nat.le_trans hsz hg.size) fun k hk hkw => ⟨⟨hk.1, ?_, hk.2.2⟩, ?_⟩
  · rcases h with h | h
    · rw [h]; exact hk.2.1
    · rw [h]; intro e; have := Option.some.inj e; omega
  · exact (hg.block k (by omega) (fun e => hk.2.1 e.symm)).trans (hwa.block k hkw)
theorem free_right {B : Nat} {v1 v2 v2' : Value} {w wa w' : World} (hwa : Below w.heap.size w wa) (hg : wa.grownBy w' v2.ownBlock) (h : v2'.ownBlock = v2.ownBlock ∨ v2'.ownBlock = some wa.heap.size) : Sub (pm (Free B v1 v2) w) (pm (Free B v1 v2') w') := by
  have hsz := hwa.size
  refine pm_pm (Nat.le_trans hsz hg.size) fun k hk hkw => ⟨⟨hk.1, hk.2.1, ?_⟩, ?_⟩
  · rcases h with h | h
    · rw [h]; exact hk.2.2
    · rw [h]; intro e; have := Option.some.inj e; omega
  · exact (hg.block k (by omega) (fun e => hk.2.2 e.symm)).trans (hwa.block k hkw)
theorem apart_left {v1 v1' v2 : Value} {wa : World} (ha : Apart v1 v2) (h : v1'.ownBlock = v1.ownBlock ∨ v1'.ownBlock = some wa.heap.size) (h2 : ∀ k, v2.ownBlock = some k → k < wa.heap.size) : Apart v1' v2 := by
  intro k hk hk2
  rcases h with h | h
  · exact ha k (h ▸ hk) hk2
  · rw [h] at hk
    have := h2 k hk2
    have := Option.some.inj hk
    omega

end Go.Proofs.YtpmafabphlejeaaGreat
