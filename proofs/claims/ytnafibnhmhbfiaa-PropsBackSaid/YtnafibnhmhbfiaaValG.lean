/-
  Words for values that are read: worlds in which single blocks are masked; values in rows of the call's own; the pure reading of values (valP); the contract of value.must.
  Conditions: none.
-/
import Derived.Test.YtnafibnhmhbfiaaValF
import Derived.Test.YtnafibnhmhbfiaaOctE
import Derived.Test.YtnafibnhmhbfiaaOctS
import Derived.WalkLawsBesides
namespace Go.Proofs.Ytnafibnhmhbfiaa
open Go.RowKit
set_option linter.unusedVariables false
set_option linter.unusedSimpArgs false

/-! ### cells that stay; a world of which the old blocks are masked -/
/-- What can be read in w can be read in w'. -/
def Sub (w w' : World) : Prop := w.heap.size ≤ w'.heap.size ∧ ∀ (k i : Nat) (v : Value), w.cell? ⟨k, i, none⟩ = some v → w'.cell? ⟨k, i, none⟩ = some v
theorem ShowsG.sub {α : Type} {C : Code α} {d : Nat} {w w' : World} {v : Value} {l : List α} (h : ShowsG C w d v l) (hs : Sub w w') : ShowsG C w' d v l := by
  obtain ⟨A, c, e1, e2, e3, e4⟩ := h
  refine ⟨A, c, e1, e2, e3, fun hp => ?_⟩
  obtain ⟨o, f1, f2, f3⟩ := e4 hp
  refine ⟨o, f1, Nat.lt_of_lt_of_le f2 hs.1, fun j hj k hk => ?_⟩
  have := f3 j hj k hk
  have hkk : k < (C.enc l[j]).length := by rw [C.len]; exact hk
  obtain ⟨u, hu⟩ : ∃ u, (C.enc l[j])[k]? = some u := ⟨_, List.getElem?_eq_getElem hkk⟩
  rw [hu] at this ⊢
  exact hs.2 _ _ _ this
theorem ShowsT.sub {w w' : World} {t : Tree} {vs : List Value} (h : ShowsT w t vs) (hs : Sub w w') : ShowsT w' t vs := by
  induction h with
  | @mk k n s ks l kv A c d0 d1 cs hk hn hks hkl hkz hsz hln hlc hcm hrow hch ih =>
    refine .mk (d0 := d0) (d1 := d1) cs hk hn (hks.sub hs) hkl hkz hsz hln hlc hcm (fun hp => ?_) ih
    obtain ⟨o, e1, e2, e3⟩ := hrow hp
    refine ⟨o, e1, Nat.lt_of_lt_of_le e2 hs.1, fun j hj q hq => ?_⟩
    have := e3 j hj q hq
    have hqq : q < (cs j).length := by rw [(hch j hj).len]; exact hq
    obtain ⟨u, hu⟩ : ∃ u, (cs j)[q]? = some u := ⟨_, List.getElem?_eq_getElem hqq⟩
    rw [hu] at this ⊢
    exact hs.2 _ _ _ this
theorem ListT.sub {w w' : World} {l : List Tree} {A : Option Addr} {c : Nat} (h : ListT w l A c) (hs : Sub w w') : ListT w' l A c :=
  ⟨h.lm, h.lc, h.cm, fun j hj => by
    obtain ⟨d, o, v0, v1, v2, v3, v4, e, hd, hsh, c0, c1, c2, c3, c4⟩ := h.at_ j hj
    exact ⟨d, o, v0, v1, v2, v3, v4, e, Nat.lt_of_lt_of_le hd hs.1, hsh.sub hs, hs.2 _ _ _ c0, hs.2 _ _ _ c1, hs.2 _ _ _ c2, hs.2 _ _ _ c3, hs.2 _ _ _ c4⟩⟩

/-- The world, the blocks below B masked. -/
def lowm (B : Nat) (w : World) : World := { w with heap := w.heap.mapIdx fun i o => if i < B then .cells #[] 0 (0, 0) else o }
theorem lowm_size (B : Nat) (w : World) : (lowm B w).heap.size = w.heap.size := by simp [lowm]
theorem lowm_hi {B k : Nat} {w : World} (h : B ≤ k) : (lowm B w).heap[k]? = w.heap[k]? := by
  simp only [lowm, Array.getElem?_mapIdx]
  cases w.heap[k]? with
  | none => rfl
  | some o => simp [Nat.not_lt.2 h]
theorem lowm_lo {B k : Nat} {w : World} (h : k < B) {i : Nat} {v : Value} : (lowm B w).cell? ⟨k, i, none⟩ ≠ some v := by
  intro hc
  by_cases hs : k < w.heap.size
  · have e : (lowm B w).heap[k]? = some (.cells #[] 0 (0, 0)) := by simp [lowm, Array.getElem?_mapIdx, hs, h]
    rw [cell_of_row _ k i _ 0 (0, 0) e] at hc
    simp at hc
  · have e : (lowm B w).heap[k]? = none := Array.getElem?_eq_none (by rw [lowm_size]; omega)
    simp [World.cell?, e] at hc
theorem low_sub {B : Nat} {w w' : World} (hs : w.heap.size ≤ w'.heap.size) (hb : ∀ k, B ≤ k → k < w.heap.size → w'.heap[k]? = w.heap[k]?) : Sub (lowm B w) (lowm B w') := by
  refine ⟨by rw [lowm_size, lowm_size]; exact hs, fun k i v h => ?_⟩
  by_cases hk : k < B
  · exact absurd h (lowm_lo hk)
  · have hkw : k < w.heap.size := by
      by_cases hkw : k < w.heap.size
      · exact hkw
      · have e : (lowm B w).heap[k]? = none := Array.getElem?_eq_none (by rw [lowm_size]; omega)
        simp [World.cell?, e] at h
    rw [← h]
    have hkB : B ≤ k := by omega
    exact World.cell?_of_block (w := lowm B w) (by show (lowm B w').heap[k]? = _; rw [lowm_hi hkB, lowm_hi hkB]; exact hb k hkB hkw)
theorem low_anti {B B' : Nat} {w : World} (h : B ≤ B') : Sub (lowm B' w) (lowm B w) := by
  refine ⟨by rw [lowm_size, lowm_size]; exact Nat.le_refl _, fun k i v hc => ?_⟩
  by_cases hk : k < B'
  · exact absurd hc (lowm_lo hk)
  · rw [← hc]
    have hkB : B' ≤ k := by omega
    exact World.cell?_of_block (w := lowm B' w) (by show (lowm B w).heap[k]? = (lowm B' w).heap[k]?; rw [lowm_hi hkB, lowm_hi (Nat.le_trans h hkB)])
theorem low_out (B : Nat) (w : World) : Sub (lowm B w) w := by
  refine ⟨by rw [lowm_size]; exact Nat.le_refl _, fun k i v hc => ?_⟩
  by_cases hk : k < B
  · exact absurd hc (lowm_lo hk)
  · rw [← hc]
    have hkB : B ≤ k := by omega
    exact World.cell?_of_block (w := lowm B w) (by show w.heap[k]? = (lowm B w).heap[k]?; rw [lowm_hi hkB])
theorem OwnG.low {α : Type} {C : Code α} {e : TypeId} {w : World} {base B : Nat} {v : Value} {l : List α} (h : OwnG C e w base v l) (hB : B ≤ base) : OwnG C e (lowm B w) base v l :=
  h.keep fun g hg => lowm_hi (by have := (h.block g hg).1; omega)

/-- All but two blocks are as they were. -/
structure Frm2 (b g : Nat) (w w' : World) : Prop where
  os : w'.os = w.os
  tape : w'.tape = w.tape
  output : w'.output = w.output
  size : w.heap.size ≤ w'.heap.size
  block : ∀ k, k < w.heap.size → k ≠ b → k ≠ g → w'.heap[k]? = w.heap[k]?
theorem Frm2.refl (b g : Nat) (w : World) : Frm2 b g w w := ⟨rfl, rfl, rfl, Nat.le_refl _, fun _ _ _ _ => rfl⟩
theorem Frm2.trans {b g : Nat} {a w w' : World} (h : Frm2 b g a w) (k : Frm2 b g w w') : Frm2 b g a w' :=
  ⟨k.os.trans h.os, k.tape.trans h.tape, k.output.trans h.output, Nat.le_trans h.size k.size, fun i hi h1 h2 => (k.block i (Nat.lt_of_lt_of_le hi h.size) h1 h2).trans (h.block i hi h1 h2)⟩
theorem Frm2.of_grown {b g : Nat} {w w' : World} (h : w.grownBy w' (some g)) : Frm2 b g w w' := ⟨h.os, h.tape, h.output, h.size, fun k hk _ h2 => h.block k hk (fun e => h2 (Option.some.inj e))⟩
theorem Frm2.of_below {b g : Nat} {w w' : World} (h : Below w.heap.size w w') : Frm2 b g w w' := ⟨h.os, h.tape, h.output, h.size, fun k hk _ _ => h.block k hk⟩
/-- Memory that is new since 'base' may be written: what was there before is as it was. -/
theorem Frm2.grown {b g : Nat} {a w w' : World} {row : Option Nat} (h : Frm2 b g a w) (hg : w.grownBy w' row) (hr : ∀ k, row = some k → a.heap.size ≤ k) : Frm2 b g a w' :=
  ⟨hg.os.trans h.os, hg.tape.trans h.tape, hg.output.trans h.output, Nat.le_trans h.size hg.size, fun k hk h1 h2 => (hg.block k (Nat.lt_of_lt_of_le hk h.size) (fun e => by have := hr k e.symm; omega)).trans (h.block k hk h1 h2)⟩
/-- What lies above all old blocks stays, whatever the two old ones do. -/
theorem Frm2.low {b g B : Nat} {w w' : World} (h : Frm2 b g w w') (hb : b < B) (hg : g < B) : Sub (lowm B w) (lowm B w') :=
  low_sub h.size fun k hk hkw => h.block k hkw (by omega) (by omega)
theorem Frm2.set {b g : Nat} {a w : World} (h : Frm2 b g a w) {p : Nat} (hp : a.heap.size ≤ p) (i : Nat) (u : Value) : Frm2 b g a (w.setCell ⟨p, i, none⟩ u) :=
  ⟨h.os, h.tape, h.output, by simpa using h.size, fun k hk h1 h2 => (Below.heap_setCell _ _ _ _ (by show k ≠ p; omega)).trans (h.block k hk h1 h2)⟩
theorem low_set {B : Nat} {w : World} {p : Nat} (hp : p < B) (i : Nat) (u : Value) : Sub (lowm B w) (lowm B (w.setCell ⟨p, i, none⟩ u)) :=
  low_sub (by simp) fun k hk _ => Below.heap_setCell _ _ _ _ (by show k ≠ p; omega)
theorem Sub.trans {a b c : World} (h : Sub a b) (k : Sub b c) : Sub a c := ⟨Nat.le_trans h.1 k.1, fun x i v hv => k.2 _ _ _ (h.2 _ _ _ hv)⟩

/-! ### values in rows of the call's own -/
/-- The parts of a value's cells. -/
structure Cell5 where
  k : Nat
  n : Nat
  s : ByteArray
  a3 : Option Addr
  n3 : Nat
  c3 : Nat
  a4 : Option Addr
  n4 : Nat
  c4 : Nat
def Cell5.vs (x : Cell5) : List Value := [.int .u8 x.k, .int .u64 x.n, .string x.s, .slice x.a3 x.n3 x.c3, .slice x.a4 x.n4 x.c4]
def valC : Code Cell5 := { enc := Cell5.vs, sz := 5, len := fun _ => rfl, one := fun x u hu => by simp [Cell5.vs] at hu; rcases hu with rfl | rfl | rfl | rfl | rfl <;> rfl, pos := by omega }
theorem ShowsT.cell5 {w : World} {t : Tree} {vs : List Value} (h : ShowsT w t vs) : ∃ x : Cell5, vs = x.vs := by
  obtain ⟨kv, A, c, d0, d1, cs, rfl, _, _, hks, _⟩ := h.open
  obtain ⟨A3, c3, rfl⟩ := str_form hks
  exact ⟨⟨t.k, t.n, t.s, A3, _, c3, A, _, c⟩, rfl⟩
theorem infoVal : (Try.prog.info? 27).map (fun i => (i.zero, i.size, i.bytes)) = some (some (.agg #[.int .u8 0, .int .u64 0, .string ⟨#[]⟩, .slice none 0 0, .slice none 0 0]), 5, 80) := by kernel_rfl
theorem infoStr : (Try.prog.info? 9).map (fun i => (i.zero, i.size, i.bytes)) = some (some (.string ⟨#[]⟩), 1, 16) := by kernel_rfl

/-- Values that lie in a row of the call's own are shown. -/
theorem listT_own {w : World} {base : Nat} {v : Value} {xs : List Cell5} {l : List Tree} (h : OwnG valC 27 w base v xs) (hl : xs.length = l.length) (hm : l.length ≤ 2199023255552)
    (hs : ∀ j (hj : j < l.length), ShowsT w l[j] (xs[j]'(by omega)).vs) : ∃ A c, v = .slice A l.length c ∧ ListT w l A c := by
  obtain ⟨g, _, A, c, rfl, h2, h3, h4⟩ := h.shows
  have e : Value.slice A xs.length c = .slice A l.length c := by simp [hl]
  refine ⟨A, c, e, hm, by omega, h3, fun j hj => ?_⟩
  obtain ⟨o, rfl, hd, hc⟩ := h4 (by omega)
  have hj' : j < xs.length := by omega
  have key := fun q hq => hc j hj' q hq
  exact ⟨g, o, _, _, _, _, _, rfl, hd, hs j hj, key 0 (by decide), key 1 (by decide), key 2 (by decide), key 3 (by decide), key 4 (by decide)⟩

/-! ### reading, without a program -/
abbrev St := Option (List UInt8)
def finP (t : Tree) (m : Nat) (s : St) : Option (Tree × Nat × St) := if s = none then none else some (t, m, s)
/-- c values, each by v, with keys or without: their keys, they, what is left. -/
def itemsP (v : Nat → St → Option (Tree × Nat × St)) (keys : Bool) : Nat → Nat → St → Option (List ByteArray × List Tree × Nat × St)
  | 0, m, s => some ([], [], m, s)
  | c + 1, m, s =>
    match v m (if keys = true then (textS 1 255 s).2 else s) with
    | none => none
    | some (t, m', s') =>
      match itemsP v keys c m' s' with
      | none => none
      | some (ks, l, r) => some ((if keys = true then [str8 (textS 1 255 s).1] else []) ++ ks, t :: l, r)
def listP (v : Nat → St → Option (Tree × Nat × St)) (k : Nat) (keys : Bool) (m : Nat) (s : St) : Option (Tree × Nat × St) :=
  match itemsP v keys (numS 4 (numS 4 s).2).1 m (numS 4 (numS 4 s).2).2 with
  | none => none
  | some (ks, l, m', s') => if lenS (numS 4 s).2 - lenS s' = (numS 4 s).1 then finP (.node k 0 ⟨#[]⟩ ks l) m' s' else none
/-- A value, of m that there may be. -/
def valP : Nat → Nat → St → Option (Tree × Nat × St)
  | 0, _, _ => none
  | _ + 1, 0, _ => none
  | f + 1, m + 1, s =>
    if 0 < (layD (numS 1 s).1).num then finP (.node (numS 1 s).1 (numS (layD (numS 1 s).1).num (numS 1 s).2).1 ⟨#[]⟩ [] []) m (numS (layD (numS 1 s).1).num (numS 1 s).2).2
    else if 0 < (layD (numS 1 s).1).text then finP (.node (numS 1 s).1 0 (str8 (textS (layD (numS 1 s).1).text (layD (numS 1 s).1).bytes (numS 1 s).2).1) [] []) m (textS (layD (numS 1 s).1).text (layD (numS 1 s).1).bytes (numS 1 s).2).2
    else if (layD (numS 1 s).1).list = true then listP (valP f) (numS 1 s).1 (layD (numS 1 s).1).keys m (numS 1 s).2
    else finP (.node (numS 1 s).1 0 ⟨#[]⟩ [] []) m (numS 1 s).2

/-! ### giving up -/
def refu : List PanicEntry := [{ v := .iface 79 (.agg #[]), recovered := false }]
theorem must_yes (w : World) : Calls Try.prog 50 #[.bool true] w fun e w' => e = .returned (.tuple #[]) ∧ w = w' := by
  go_enter Try.func50, Try.ntmps50
  go_wp2_with fail
  first | go_end0 | refine bodyPost_ret (results_none rfl _ _ _) rfl ?_
  exact ⟨rfl, rfl⟩
theorem must_no (w : World) : Calls Try.prog 50 #[.bool false] w fun e w' => e = .panicked refu ∧ w = w' := by
  go_enter Try.func50, Try.ntmps50
  go_wp2_with fail
  exact ⟨rfl, rfl, rfl⟩

end Go.Proofs.Ytnafibnhmhbfiaa
