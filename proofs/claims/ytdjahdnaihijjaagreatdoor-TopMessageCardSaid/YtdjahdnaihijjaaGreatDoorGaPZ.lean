/-
  Texts, together: GaP, GaM.
  Conditions: none but sizes.
-/
import Derived.Test.YtdjahdnaihijjaaGreatDoorFrPZ
import Derived.WideKeyPair
import Derived.Maps.OwnSet
/-
  Without the program: assemblies and their frames; what is open of an assembly; what a frame does to it.
  Conditions: none.
-/
namespace Go.Proofs.YtdjahdnaihijjaaGreatDoor
open Go.RowKit
set_option linter.unusedVariables false
set_option linter.unusedSimpArgs false

/-- A segment of an assembly. -/
structure Sg where
  t : Nat
  p : ByteArray
deriving DecidableEq

/-- The bytes of all segments together. -/
def sumS : List Sg → Nat
  | [] => 0
  | s :: r => s.p.size + sumS r

/-- Types that rise, to 3 at most. -/
def risesD (x : Nat) : List Sg → Bool
  | [] => true
  | s :: r => decide (x < s.t ∧ s.t ≤ 3) && risesD s.t r

/-- May an assembly begin so on that track? -/
def firstD (t k : Nat) : Bool := if k = 0 then t == 0 else if k = 1 then t == 1 else false

/-- Do the types stand so that they may? -/
def typesD (k : Nat) : List Sg → Bool
  | [] => false
  | s :: r => firstD s.t k && (if k = 0 then r.isEmpty else risesD s.t r)

/-- The answer of Check. -/
def checkA (k : Nat) (l : List Sg) : Nat := if typesD k l = true ∧ sumS l ≤ 16384 then 0 else 70

/-- A payload in pieces. -/
def cutP (n : Nat) (l : List UInt8) : List (List UInt8) :=
  if h : n = 0 ∨ l.length ≤ n then [l] else l.take n :: cutP n (l.drop n)
termination_by l.length
decreasing_by simp; omega

/-- The pieces of one segment as frames. -/
def pieceF (a b : Bool) (t k ch : Nat) (c : Bool) : List (List UInt8) → List Fr
  | [] => []
  | [x] => [⟨a, b, c, true, t, k, ch, str8 x⟩]
  | x :: y :: r => ⟨a, b, c, false, t, k, ch, str8 x⟩ :: pieceF a b t k ch false (y :: r)

/-- The frames of a segment. -/
def segF (n k ch : Nat) (a b : Bool) (s : Sg) : List Fr := pieceF a b s.t k ch true (cutP n (sb s.p))

/-- The frames of the segments, of which the first is the assembly's first if a. -/
def framesD (n k ch : Nat) (a : Bool) : List Sg → List Fr
  | [] => []
  | s :: r => segF n k ch a r.isEmpty s ++ framesD n k ch false r

/-- What is open of an assembly: its segments' types and where each one's bytes begin, the bytes, the last segment's first frame without its payload, and whether it is whole. -/
structure Pt where
  segs : List (Nat × Nat)
  bytes : List UInt8
  head : Fr
  whole : Bool

def fr0 : Fr := ⟨false, false, false, false, 0, 0, 0, ⟨#[]⟩⟩
def pt0 : Pt := ⟨[], [], fr0, false⟩

def Pt.add (p : Pt) (f : Fr) : Pt where
  segs := p.segs ++ (if f.c = true then [(f.t, p.bytes.length)] else [])
  bytes := p.bytes ++ sb f.p
  head := if f.c = true then { f with p := ⟨#[]⟩ } else p.head
  whole := f.d

/-- Does a frame fit what is open? -/
def fitsD (f : Fr) : Option Pt → Bool
  | none => f.a && f.c && firstD f.t f.k && (f.b || !(f.k == 0))
  | some p => if p.whole = false then !f.c && f.t == p.head.t && f.a == p.head.a && f.b == p.head.b else f.c && !f.a && decide (p.head.t < f.t)

/-- Why a frame can't be added. -/
def refusedD (f : Fr) (o : Option Pt) : Nat :=
  if checkF f ≠ 0 then 60 else if fitsD f o = false then 70 else if 16384 < (o.getD pt0).bytes.length + f.p.size then 3 else 0

/-- The segments of what is whole: from the last one. -/
def wholeD (bytes : List UInt8) : List (Nat × Nat) → List Sg
  | [] => []
  | [s] => [⟨s.1, str8 (bytes.drop s.2)⟩]
  | s :: q :: r => ⟨s.1, str8 ((bytes.take q.2).drop s.2)⟩ :: wholeD bytes (q :: r)

abbrev Plc := Nat × Nat
def Fr.plc (f : Fr) : Plc := (f.ch, f.k)

/-- What stands at a place. -/
def getM {α : Type} : List (Plc × α) → Plc → Option α
  | [], _ => none
  | x :: r, q => if x.1 = q then some x.2 else getM r q
def putM {α : Type} : List (Plc × α) → Plc → α → List (Plc × α)
  | [], q, v => [(q, v)]
  | x :: r, q, v => if x.1 = q then (q, v) :: r else x :: putM r q v
def delM {α : Type} : List (Plc × α) → Plc → List (Plc × α)
  | [], _ => []
  | x :: r, q => if x.1 = q then r else x :: delM r q

/-- An answer of Feed: channel and track and segments; whether there is an assembly; the error. -/
structure Ans where
  ch : Nat
  k : Nat
  l : List Sg
  is : Bool
  e : Nat

def ans0 (e : Nat) : Ans := ⟨0, 0, [], false, e⟩

/-- Feed of a gatherer that is alive: the answer and what is open then (none: it is dead). -/
def feedM (M : List (Plc × Pt)) (f : Fr) : Ans × Option (List (Plc × Pt)) :=
  let o := getM M f.plc
  if refusedD f o ≠ 0 then (ans0 (refusedD f o), none)
  else
    let p := (o.getD pt0).add f
    if f.b = true ∧ f.d = true then (⟨f.ch, f.k, wholeD p.bytes p.segs, true, 0⟩, some (delM M f.plc))
    else (ans0 0, some (putM M f.plc p))

end Go.Proofs.YtdjahdnaihijjaaGreatDoor
/-
  Memory of a gatherer: a map whose keys are arrays of two numbers; worlds of which some blocks may have turned.
  Conditions: none.
-/
namespace Go.Proofs.YtdjahdnaihijjaaGreatDoor
open Go.RowKit Go.MapKept
open Go.ChangeMaps (setBlock heap_setBlock_same heap_setBlock_other modify_eq_set)
set_option linter.unusedVariables false
set_option linter.unusedSimpArgs false

theorem keyArr : WideMaps.ArrKey Tryz.prog 82 30 2 := ⟨Tryz.underlying82, by kernel_rfl, by kernel_rfl, by kernel_rfl⟩
theorem keyLaw : WideMaps.KeyLaw Tryz.prog 82 := keyArr.law

/-- The key of a place. -/
def keyV (q : Plc) : Value := .agg #[.int .u16 q.1, .int .u16 q.2]
def smallP (q : Plc) : Prop := q.1 < 65536 ∧ q.2 < 65536
theorem u16_wf {n : Nat} (h : n < 65536) : (Lit.int .u16 n).wf = true := by
  simp only [Lit.wf, IntKind.min, IntKind.max, IntKind.signed, IntKind.bits, Bool.and_eq_true, decide_eq_true_eq]
  simp
  omega
theorem typesSize : ∃ m, Tryz.prog.types.size = m + 1 := ⟨Tryz.prog.types.size - 1, by have : 0 < Tryz.prog.types.size := of_decide_eq_true (by kernel_rfl); omega⟩
theorem keyV_lit {q : Plc} (h : smallP q) : ∃ l, keyOf Tryz.prog 82 (keyV q) = some l :=
  ⟨_, WideMaps.keyOf_pair keyArr Tryz.underlying30 typesSize (u16_wf h.1) (u16_wf h.2)⟩
theorem keyV_inj {p q : Plc} (h : keyV p = keyV q) : p = q := by
  obtain ⟨a, b⟩ := p
  obtain ⟨c, d⟩ := q
  simp [keyV] at h
  simp
  omega

section
variable {α : Type}
theorem getM_none {q : Plc} : ∀ {L : List (Plc × α)}, (∀ x ∈ L, x.1 ≠ q) → getM L q = none
  | [], _ => rfl
  | x :: r, h => by rw [getM, if_neg (h x (by simp))]; exact getM_none fun y hy => h y (by simp [hy])
theorem putM_none {q : Plc} {v : α} : ∀ {L : List (Plc × α)}, (∀ x ∈ L, x.1 ≠ q) → putM L q v = L ++ [(q, v)]
  | [], _ => rfl
  | x :: r, h => by rw [putM, if_neg (h x (by simp)), putM_none fun y hy => h y (by simp [hy])]; rfl
theorem delM_none {q : Plc} : ∀ {L : List (Plc × α)}, (∀ x ∈ L, x.1 ≠ q) → delM L q = L
  | [], _ => rfl
  | x :: r, h => by rw [delM, if_neg (h x (by simp)), delM_none fun y hy => h y (by simp [hy])]
theorem at_some {q : Plc} {v : α} : ∀ {L : List (Plc × α)} {j : Nat}, (L.map (·.1)).Nodup → L[j]? = some (q, v) → getM L q = some v ∧ (∀ u, putM L q u = L.set j (q, u)) ∧ delM L q = L.eraseIdx j
  | [], _, _, h => by simp at h
  | x :: r, 0, hn, h => by
    simp at h
    subst h
    simp [getM, putM, delM]
  | x :: r, j + 1, hn, h => by
    simp at h
    have hne : x.1 ≠ q := by
      intro e
      rw [List.map_cons, List.nodup_cons] at hn
      refine hn.1 ?_
      rw [e]
      exact List.mem_map.2 ⟨_, List.mem_of_getElem? h, rfl⟩
    rw [List.map_cons, List.nodup_cons] at hn
    obtain ⟨h1, h2, h3⟩ := at_some hn.2 h
    refine ⟨by rw [getM, if_neg hne]; exact h1, fun u => by rw [putM, if_neg hne, h2]; rfl, by rw [delM, if_neg hne, h3]; rfl⟩
theorem getM_mem {q : Plc} {v : α} : ∀ {L : List (Plc × α)}, getM L q = some v → (q, v) ∈ L
  | [], h => by simp [getM] at h
  | x :: r, h => by
    unfold getM at h
    split at h
    · rename_i e; cases h; rw [← e]; simp
    · exact List.mem_cons_of_mem _ (getM_mem h)
theorem mem_putM {q : Plc} {v : α} {y : Plc × α} : ∀ {L : List (Plc × α)}, y ∈ putM L q v → y = (q, v) ∨ (y ∈ L ∧ (y.1 ≠ q ∨ ¬ (L.map (·.1)).Nodup))
  | [], h => by simp [putM] at h; exact .inl h
  | x :: r, h => by
    unfold putM at h
    split at h
    · rename_i e
      rcases List.mem_cons.1 h with h | h
      · exact .inl h
      · by_cases hy : y.1 = q
        · refine .inr ⟨by simp [h], .inr fun hn => ?_⟩
          rw [List.map_cons, List.nodup_cons] at hn
          exact hn.1 (by rw [e, ← hy]; exact List.mem_map.2 ⟨_, h, rfl⟩)
        · exact .inr ⟨by simp [h], .inl hy⟩
    · rename_i e
      rcases List.mem_cons.1 h with h | h
      · subst h; exact .inr ⟨by simp, .inl e⟩
      · rcases mem_putM h with h | ⟨h1, h2⟩
        · exact .inl h
        · refine .inr ⟨by simp [h1], h2.imp id fun h3 hn => ?_⟩
          rw [List.map_cons, List.nodup_cons] at hn
          exact h3 hn.2
theorem putM_keys {q : Plc} {v : α} : ∀ {L : List (Plc × α)}, (putM L q v).map (·.1) = if q ∈ L.map (·.1) then L.map (·.1) else L.map (·.1) ++ [q]
  | [] => by simp [putM]
  | x :: r => by
    unfold putM
    by_cases e : x.1 = q
    · rw [if_pos e, if_pos (by simp [e])]; simp [e]
    · rw [if_neg e, List.map_cons, putM_keys, List.map_cons]
      by_cases h : q ∈ r.map (·.1)
      · rw [if_pos h, if_pos (by simp only [List.mem_cons]; exact .inr h)]
      · rw [if_neg h, if_neg (by simp only [List.mem_cons]; rintro (h1 | h1); exact e h1.symm; exact h h1)]; simp
theorem putM_nodup {q : Plc} {v : α} {L : List (Plc × α)} (h : (L.map (·.1)).Nodup) : ((putM L q v).map (·.1)).Nodup := by
  rw [putM_keys]
  split
  · exact h
  · rename_i hq
    rw [List.nodup_append]
    refine ⟨h, by simp, ?_⟩
    intro a ha b hb
    simp at hb
    subst hb
    rintro rfl
    exact hq ha
theorem delM_sub {q : Plc} : ∀ {L : List (Plc × α)}, (delM L q).Sublist L
  | [] => List.Sublist.refl _
  | x :: r => by
    unfold delM
    split
    · exact List.sublist_cons_self _ _
    · exact (delM_sub (L := r)).cons_cons x
theorem delM_nodup {q : Plc} {L : List (Plc × α)} (h : (L.map (·.1)).Nodup) : ((delM L q).map (·.1)).Nodup := (delM_sub.map _).nodup h
theorem delM_ne {q : Plc} : ∀ {L : List (Plc × α)}, (L.map (·.1)).Nodup → ∀ x ∈ delM L q, x.1 ≠ q
  | [], _, x, hx => by simp [delM] at hx
  | y :: r, h, x, hx => by
    rw [List.map_cons, List.nodup_cons] at h
    unfold delM at hx
    split at hx
    · rename_i e
      intro e2
      exact h.1 (by rw [e, ← e2]; exact List.mem_map.2 ⟨_, hx, rfl⟩)
    · rename_i e
      rcases List.mem_cons.1 hx with rfl | hx
      · exact e
      · exact delM_ne h.2 x hx
variable {β : Type}
theorem getM_map (g : α → β) (q : Plc) : ∀ L : List (Plc × α), getM (L.map fun x => (x.1, g x.2)) q = (getM L q).map g
  | [] => rfl
  | x :: r => by
    simp only [List.map_cons, getM]
    split
    · rfl
    · exact getM_map g q r
theorem putM_map (g : α → β) (q : Plc) (v : α) : ∀ L : List (Plc × α), putM (L.map fun x => (x.1, g x.2)) q (g v) = (putM L q v).map fun x => (x.1, g x.2)
  | [] => rfl
  | x :: r => by
    simp only [List.map_cons, putM]
    split
    · rfl
    · rw [List.map_cons, putM_map g q v r]
theorem delM_map (g : α → β) (q : Plc) : ∀ L : List (Plc × α), delM (L.map fun x => (x.1, g x.2)) q = (delM L q).map fun x => (x.1, g x.2)
  | [] => rfl
  | x :: r => by
    simp only [List.map_cons, delM]
    split
    · rfl
    · rw [List.map_cons, delM_map g q r]
end

/-- Block b is a map with just these entries. -/
def MapIs (w : World) (b : Nat) (L : List (Plc × Value)) : Prop :=
  (∃ es clock, w.heap[b]? = some (.map es clock) ∧ es.toList.map (fun e => (e.key, e.val)) = L.map (fun x => (keyV x.1, x.2))) ∧ (∀ x ∈ L, smallP x.1) ∧ (L.map (·.1)).Nodup

section
variable {w w' : World} {b : Nat} {L : List (Plc × Value)}
theorem MapIs.lt (h : MapIs w b L) : b < w.heap.size := by
  obtain ⟨⟨es, clock, hb, _⟩, _⟩ := h
  exact (Array.getElem?_eq_some_iff.1 hb).1
theorem MapIs.keep (h : MapIs w b L) (hk : w'.heap[b]? = w.heap[b]?) : MapIs w' b L := by
  obtain ⟨⟨es, clock, hb, he⟩, r⟩ := h
  exact ⟨⟨es, clock, hk.trans hb, he⟩, r⟩
theorem MapIs.new (w : World) : MapIs (w.alloc (.map #[] 0)) w.heap.size [] := ⟨⟨#[], 0, heap_alloc_new w _, rfl⟩, by simp, by simp⟩

/-- What a look-up finds. -/
theorem MapIs.find (h : MapIs w b L) {q : Plc} (hq : smallP q) : ∃ es clock, w.heap[b]? = some (.map es clock) ∧ es.toList.map (fun e => (e.key, e.val)) = L.map (fun x => (keyV x.1, x.2)) ∧
    (((Instr.findKey 82 (keyV q) es.toList).run Tryz.prog w = .ok none w ∧ ∀ x ∈ L, x.1 ≠ q) ∨ ∃ j e v, (Instr.findKey 82 (keyV q) es.toList).run Tryz.prog w = .ok (some (j, v)) w ∧ es[j]? = some e ∧ e.key = keyV q ∧ e.val = v ∧ L[j]? = some (q, v)) := by
  obtain ⟨⟨es, clock, hb, he⟩, hs, hn⟩ := h
  refine ⟨es, clock, hb, he, ?_⟩
  obtain ⟨l, hl⟩ := keyV_lit hq
  have hkeys : ∀ e ∈ es.toList, ∃ x ∈ L, e.key = keyV x.1 ∧ e.val = x.2 := fun e hm => by
    have : (e.key, e.val) ∈ L.map (fun x => (keyV x.1, x.2)) := by rw [← he]; exact List.mem_map.2 ⟨e, hm, rfl⟩
    obtain ⟨x, hx, hxe⟩ := List.mem_map.1 this
    simp at hxe
    exact ⟨x, hx, hxe.1.symm, hxe.2.symm⟩
  rcases keyLaw.find w hl es.toList (fun e hm => by obtain ⟨x, hx, h1, _⟩ := hkeys e hm; rw [h1]; exact keyV_lit (hs x hx)) with ⟨h1, h2⟩ | ⟨j, e, h1, h2, h3⟩
  · refine .inl ⟨h1, fun x hx e => ?_⟩
    have : (keyV x.1, x.2) ∈ es.toList.map (fun e => (e.key, e.val)) := by rw [he]; exact List.mem_map.2 ⟨x, hx, rfl⟩
    obtain ⟨y, hy, hye⟩ := List.mem_map.1 this
    simp at hye
    exact h2 y hy (by rw [hye.1, e])
  · have hj : (es.toList.map (fun e => (e.key, e.val)))[j]? = some (e.key, e.val) := by rw [List.getElem?_map, h2]; rfl
    rw [he, List.getElem?_map] at hj
    cases hLj : L[j]? with
    | none => rw [hLj] at hj; cases hj
    | some x =>
      rw [hLj] at hj
      simp at hj
      have hx : x.1 = q := keyV_inj (hj.1.trans h3)
      refine .inr ⟨j, e, e.val, h1, by simpa using h2, h3, rfl, ?_⟩
      rw [hLj, ← hj.2, ← hx]

theorem mapType : Tryz.prog.underlying 77 = some (.map 82 85) := Tryz.underlying77

/-- 'v, is := m[k]'. -/
theorem MapIs.look (h : MapIs w b L) {q : Plc} (hq : smallP q) {z : Value} (hz : (zeroValue 85).run Tryz.prog w = .ok z w) :
    (Instr.lookup 77 (.map (some b)) (keyV q) true).run Tryz.prog w = .ok (.tuple #[(getM L q).getD z, .bool (getM L q).isSome]) w := by
  obtain ⟨l, hl⟩ := keyV_lit hq
  have hn := h.2.2
  obtain ⟨es, clock, hb, he, hf⟩ := h.find hq
  have hc := fun em => keyLaw.check w em hl
  rcases hf with ⟨h1, h2⟩ | ⟨j, e, v, h1, h2, h3, h4, h5⟩
  · rw [getM_none h2]
    simp [Instr.lookup, run_underlying mapType, MapKept.run_getObj_map hb, hc, h1, hz, Result.andThen]
  · rw [(at_some hn h5).1]
    simp [Instr.lookup, run_underlying mapType, MapKept.run_getObj_map hb, hc, h1, Result.andThen]

/-- 'm[k] = v'. -/
theorem MapIs.store (h : MapIs w b L) {q : Plc} (hq : smallP q) (v : Value) :
    ∃ w', (Instr.mapUpdate 77 (.map (some b)) (keyV q) v).run Tryz.prog w = .ok () w' ∧ MapIs w' b (putM L q v) ∧ w.grownBy w' (some b) ∧ w'.heap.size = w.heap.size := by
  obtain ⟨l, hl⟩ := keyV_lit hq
  have hn := h.2.2
  have hs := h.2.1
  obtain ⟨es, clock, hb, he, hf⟩ := h.find hq
  have hc := fun em => keyLaw.check w em hl
  have hgrow : ∀ o, w.grownBy (setBlock w b o) (some b) := fun o => ⟨rfl, rfl, rfl, by simp [setBlock], fun i _ hi => heap_setBlock_other hb _ (fun e => hi (by rw [e]))⟩
  have hsm : ∀ x ∈ putM L q v, smallP x.1 := fun x hx => by
    rcases mem_putM hx with rfl | ⟨hx, _⟩
    · exact hq
    · exact hs x hx
  rcases hf with ⟨h1, h2⟩ | ⟨j, e, u, h1, h2, h3, h4, h5⟩
  · refine ⟨setBlock w b (.map (es.push ⟨keyV q, v, clock⟩) (clock + 1)), ?_, ⟨⟨_, _, heap_setBlock_same hb _, ?_⟩, hsm, putM_nodup hn⟩, hgrow _, by simp [setBlock]⟩
    · simp [Instr.mapUpdate, run_underlying mapType, MapKept.run_getObj_map hb, hc, h1, MapKept.run_setObj_map _ hb, Result.andThen, setBlock]
    · rw [putM_none h2]
      simp [he]
  · have h2' : es.toList[j]? = some e := by simpa using h2
    refine ⟨setBlock w b (.map (es.modify j (fun e' => { e' with key := keyV q, val := v })) clock), ?_, ⟨⟨_, _, heap_setBlock_same hb _, ?_⟩, hsm, putM_nodup hn⟩, hgrow _, by simp [setBlock]⟩
    · simp [Instr.mapUpdate, run_underlying mapType, MapKept.run_getObj_map hb, hc, h1, h2, h3, keyLaw.stays w hl, MapKept.run_setObj_map _ hb, Result.andThen, setBlock]
    · rw [(at_some hn h5).2.1, Array.toList_modify, modify_eq_set _ _ _ _ h2', List.map_set, List.map_set, he]

/-- 'delete(m, k)'. -/
theorem MapIs.drop (h : MapIs w b L) {q : Plc} (hq : smallP q) (ty : TypeId) :
    ∃ w', (Builtin.delete_ #[77, 82] ty #[.map (some b), keyV q]).run Tryz.prog w = .ok (.tuple #[]) w' ∧ MapIs w' b (delM L q) ∧ w.grownBy w' (some b) ∧ w'.heap.size = w.heap.size := by
  obtain ⟨l, hl⟩ := keyV_lit hq
  have hn := h.2.2
  have hs := h.2.1
  obtain ⟨es, clock, hb, he, hf⟩ := h.find hq
  have hc := fun em => keyLaw.check w em hl
  have hgrow : ∀ o, w.grownBy (setBlock w b o) (some b) := fun o => ⟨rfl, rfl, rfl, by simp [setBlock], fun i _ hi => heap_setBlock_other hb _ (fun e => hi (by rw [e]))⟩
  have hsm : ∀ x ∈ delM L q, smallP x.1 := fun x hx => hs x (delM_sub.subset hx)
  rcases hf with ⟨h1, h2⟩ | ⟨j, e, u, h1, h2, h3, h4, h5⟩
  · refine ⟨setBlock w b (.map es clock), ?_, ⟨⟨_, _, heap_setBlock_same hb _, ?_⟩, hsm, delM_nodup hn⟩, hgrow _, by simp [setBlock]⟩
    · simp [Builtin.delete_, run_underlying mapType, MapKept.run_getObj_map hb, hc, h1, MapKept.run_setObj_map _ hb, Result.andThen, setBlock]
    · rw [delM_none h2, he]
  · refine ⟨setBlock w b (.map (es.eraseIdxIfInBounds j) clock), ?_, ⟨⟨_, _, heap_setBlock_same hb _, ?_⟩, hsm, delM_nodup hn⟩, hgrow _, by simp [setBlock]⟩
    · simp [Builtin.delete_, run_underlying mapType, MapKept.run_getObj_map hb, hc, h1, MapKept.run_setObj_map _ hb, Result.andThen, setBlock]
    · have hjs : j < es.size := (Array.getElem?_eq_some_iff.1 h2).1
      rw [(at_some hn h5).2.2]
      unfold Array.eraseIdxIfInBounds
      rw [dif_pos hjs, Array.toList_eraseIdx, Go.ChangeMaps.map_eraseIdx, he, Go.ChangeMaps.map_eraseIdx]

/-- 'len(m)'. -/
theorem MapIs.len (h : MapIs w b L) (ty : TypeId) : (Builtin.len_ #[77] ty #[.map (some b)]).run Tryz.prog w = .ok (.int .i64 L.length) w := by
  obtain ⟨⟨es, clock, hb, he⟩, _⟩ := h
  have : es.size = L.length := by
    have := congrArg List.length he
    simpa using this
  simp [Builtin.len_, run_underlying mapType, MapKept.run_getObj_map hb, goInt, Result.andThen, this]
end

/-- w' is w but for blocks of F and new ones. -/
structure Moved (F : Nat → Prop) (w w' : World) : Prop where
  os : w'.os = w.os
  tape : w'.tape = w.tape
  output : w'.output = w.output
  size : w.heap.size ≤ w'.heap.size
  block : ∀ k, k < w.heap.size → ¬ F k → w'.heap[k]? = w.heap[k]?

section
variable {F F1 F2 : Nat → Prop} {w w1 w2 : World}
theorem Moved.refl (F : Nat → Prop) (w : World) : Moved F w w := ⟨rfl, rfl, rfl, Nat.le_refl _, fun _ _ _ => rfl⟩
theorem Moved.trans (h : Moved F w w1) (h1 : Moved F1 w1 w2) (hs : ∀ k, k < w.heap.size → F1 k → F k) : Moved F w w2 :=
  ⟨h1.os.trans h.os, h1.tape.trans h.tape, h1.output.trans h.output, Nat.le_trans h.size h1.size, fun k hk hF => (h1.block k (Nat.lt_of_lt_of_le hk h.size) fun e => hF (hs k hk e)).trans (h.block k hk hF)⟩
theorem Moved.of_below (h : Below w.heap.size w w1) : Moved F w w1 := ⟨h.os, h.tape, h.output, h.size, fun k hk _ => h.block k hk⟩
theorem Moved.of_grown {r : Option Nat} (h : w.grownBy w1 r) (hr : ∀ k, r = some k → F k) : Moved F w w1 :=
  ⟨h.os, h.tape, h.output, h.size, fun k hk hF => h.block k hk (fun e => hF (hr k e.symm))⟩
theorem Moved.setCell (h : Moved F w w1) {k : Nat} (hF : k < w.heap.size → F k) (i : Nat) (v : Value) : Moved F w (w1.setCell ⟨k, i, none⟩ v) :=
  h.trans (F1 := fun j => j = k) ⟨rfl, rfl, rfl, by simp, fun j _ hj => Below.heap_setCell _ _ _ _ (by show j ≠ k; exact hj)⟩ (fun j hj e => by subst e; exact hF hj)
theorem Moved.drew (h : Moved F w w1) : Moved F w w1.drew := ⟨h.os, h.tape, h.output, h.size, h.block⟩
theorem Moved.drewN (h : Moved F w w1) (n : Nat) : Moved F w (w1.drewN n) := ⟨h.os, h.tape, h.output, h.size, h.block⟩
theorem Moved.below {w0 : World} {B : Nat} (hb : Below B w0 w) (h : Moved F w w1) (hB : ∀ k, F k → B ≤ k) (hw : B ≤ w.heap.size) : Below B w0 w1 :=
  ⟨h.os.trans hb.os, h.tape.trans hb.tape, h.output.trans hb.output, Nat.le_trans hb.size h.size, fun k hk => (h.block k (by omega) (fun e => by have := hB k e; omega)).trans (hb.block k hk)⟩
theorem Moved.mono (h : Moved F w w1) (hs : ∀ k, k < w.heap.size → F k → F2 k) : Moved F2 w w1 := ⟨h.os, h.tape, h.output, h.size, fun k hk hF => h.block k hk fun e => hF (hs k hk e)⟩
end

end Go.Proofs.YtdjahdnaihijjaaGreatDoor
