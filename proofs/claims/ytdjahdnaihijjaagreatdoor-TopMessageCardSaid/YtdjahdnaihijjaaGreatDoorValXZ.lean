/-
  The contract of the document's own Copy.
  Conditions: at most 1000 values.
-/
import Derived.Deep.RegionWith
import Derived.Deep.RegionLaw
import Derived.Deep.CutRange
import Derived.Deep.DeepCutAuto
import Derived.Deep.CutBlock
import Derived.Test.YtdjahdnaihijjaaGreatDoorValIZ
namespace Go.Proofs.YtdjahdnaihijjaaGreatDoor
open Go.RowKit
set_option linter.unusedVariables false
set_option linter.unusedSimpArgs false

/-- An append at a step of a region that draws its order, and where it leaves its row. -/
theorem step_appendW {α : Type} (C : Code α) {P : Program} (w : World) {ops : Array Oper} {o : Oper} {a : Act} {K : Act → World → Prop} {Q : Exit → Act → World → Prop} {E : Prop} (hgd : o.guard = none) (s x : Operand) (t : TypeId)
    (ho : o.op = .call { callee := .builtin .append, args := #[s, x], argTypes := #[t, t] })
    (base : Nat) (e : TypeId) (z : Value) (bytes : Nat) (ht : P.underlying t = some (.slice e)) (hi : (P.info? e).map (fun i => (i.zero, i.size, i.bytes)) = some (some z, C.sz, bytes)) (hzs : z.cells.size = C.sz)
    (v : Value) (l : List α) (hs : a.eval s = v) (hown : OwnG C e w base v l) (d : Nat) (y : Value) (m : List α) (hx : a.eval x = y) (hm : ShowsG C w d y m) (hm0 : 0 < m.length)
    (hb : (l.length + m.length) * bytes ≤ 140737488355328) (hb63 : l.length + m.length ≤ 140737488355328) (hbase : base ≤ w.heap.size)
    (h : ∀ v' w', OwnG C e w' base v' (l ++ m) → w.grownBy w' v.ownBlock → (v'.ownBlock = v.ownBlock ∨ v'.ownBlock = some w.heap.size) → K (a.put o.dst v') w') :
    if Region.wanted o (yielded ops a.tmps) = true then Oper.wp P o a w K Q else E := by
  have hw : Region.wanted o (yielded ops a.tmps) = true := by simp [Region.wanted, hgd]
  rw [if_pos hw]
  obtain ⟨i, hi0, hz, hs1, hb1⟩ := info_parts hi
  obtain ⟨v', w', hr, h2, h3⟩ := run_appendG (P := P) (C := C) t o.type i z bytes ht hi0 hz hs1 hb1 hzs hown y m hm hb (by simp only [maxLen]; omega) hbase
  have h4 := append_where (P := P) (C := C) t o.type i z bytes ht hi0 hz hs1 hb1 hown y m d hm hm0 hb (by simp only [maxLen]; omega) v' w' hr
  unfold Oper.wp execOp
  simp only [ho, resolve, invoke, builtin, Sem.run_bind, Sem.run_pure, Result.andThen_ok, List.map_toArray, List.map_cons, List.map_nil, hs, hx, hr]
  exact h v' w' h2 h3 h4

theorem BoxV.fr {w : World} {b : Nat} {v0 v1 v2 v3 v4 : Value} (h : BoxV w b v0 v1 v2 v3 v4) (i : Nat) : w.frozen? ⟨b, i, none⟩ = false := frozen_of_row w b i _ 27 h

/-- Copy in its loop: the argument's box, the answer's, its own with the keys and the first values. -/
structure CopyR (w0 : World) (t : Tree) (kv0 lv0 : Value) (j : Nat) (kv lv : Value) (xs : List Cell5) (w : World) : Prop where
  arg : BoxV w w0.heap.size (.int .u8 t.k) (.int .u64 t.n) (.string t.s) kv0 lv0
  z : BoxV w (w0.heap.size + 1) (.int .u8 0) (.int .u64 0) (.string ⟨#[]⟩) (.slice none 0 0) (.slice none 0 0)
  out : BoxV w (w0.heap.size + 1 + 1) (.int .u8 t.k) (.int .u64 t.n) (.string t.s) kv lv
  ks : OwnG strC 9 w (w0.heap.size + 3) kv t.ks
  l : OwnG valC 27 w (w0.heap.size + 3) lv xs
  len : xs.length = j
  sh : ∀ q (h1 : q < t.l.length) (h2 : q < xs.length), ShowsT (pm (Free (w0.heap.size + 3) kv lv) w) t.l[q] xs[q].vs
  ap : Apart kv lv
  bel : Below w0.heap.size w0 w
section
variable {w0 w w' : World} {t : Tree} {kv0 lv0 : Value} {j : Nat} {kv lv : Value} {xs : List Cell5}
theorem CopyR.lt (h : CopyR w0 t kv0 lv0 j kv lv xs w) : w0.heap.size + 3 ≤ w.heap.size := by
  have := h.out.lt
  omega
theorem CopyR.drew (h : CopyR w0 t kv0 lv0 j kv lv xs w) : CopyR w0 t kv0 lv0 j kv lv xs w.drew :=
  ⟨h.arg, h.z, h.out, h.ks.keep fun _ _ => rfl, h.l.keep fun _ _ => rfl, h.len, fun q h1 h2 => (h.sh q h1 h2).sub (pm_pm (Nat.le_refl _) fun k hk _ => ⟨hk, rfl⟩), h.ap, below_drew1 h.bel⟩
theorem CopyR.step (h : CopyR w0 t kv0 lv0 j kv lv xs w) (hb : Below w.heap.size w w') : CopyR w0 t kv0 lv0 j kv lv xs w' :=
  ⟨h.arg.kept hb (Nat.le_refl _), h.z.kept hb (Nat.le_refl _), h.out.kept hb (Nat.le_refl _), h.ks.below hb (Nat.le_refl _), h.l.below hb (Nat.le_refl _), h.len,
    fun q h1 h2 => (h.sh q h1 h2).sub (pm_pm hb.size fun k hk hkw => ⟨hk, hb.block k hkw⟩), h.ap, h.bel.trans (hb.mono h.bel.size)⟩

/-- One value more. -/
theorem CopyR.push (h : CopyR w0 t kv0 lv0 j kv lv xs w) {B : Nat} (hB : B ≤ w.heap.size) (hB0 : w0.heap.size + 3 ≤ B) (hkB : ∀ k, kv.ownBlock = some k → k < B) (hlB : ∀ k, lv.ownBlock = some k → k < B) (hj : j < t.l.length) {x : Cell5} (hx : ShowsT (lowm B w) (t.l[j]'hj) x.vs)
    {o : Obj} {lv' : Value} {w6 : World} (ho : OwnG valC 27 w6 (w0.heap.size + 3) lv' (xs ++ [x])) (hg : (w.alloc o).grownBy w6 lv.ownBlock) (hwh : lv'.ownBlock = lv.ownBlock ∨ lv'.ownBlock = some (w.alloc o).heap.size) :
    CopyR w0 t kv0 lv0 (j + 1) kv lv' (xs ++ [x]) (w6.setCell ⟨w0.heap.size + 1 + 1, 4, none⟩ lv') := by
  have hlt := h.lt
  have hbA : Below w.heap.size w (w.alloc o) := (Below.refl _ _).alloc (Nat.le_refl _) _
  have hlo : ∀ k, lv.ownBlock = some k → w0.heap.size + 3 ≤ k ∧ k < w.heap.size := h.l.block
  have hko : ∀ k, kv.ownBlock = some k → w0.heap.size + 3 ≤ k ∧ k < w.heap.size := h.ks.block
  have hs6 : w.heap.size ≤ w6.heap.size := by have := hg.size; simp at this; omega
  have hkeep : ∀ k, k < w.heap.size → lv.ownBlock ≠ some k → w6.heap[k]? = w.heap[k]? := fun k hk hne => (hg.block k (by simp; omega) (fun e => hne e.symm)).trans (hbA.block k hk)
  have hset : ∀ k, k ≠ w0.heap.size + 1 + 1 → (w6.setCell ⟨w0.heap.size + 1 + 1, 4, none⟩ lv').heap[k]? = w6.heap[k]? := fun k hk => Below.heap_setCell _ _ _ _ (by show k ≠ _; exact hk)
  have hss : (w6.setCell ⟨w0.heap.size + 1 + 1, 4, none⟩ lv').heap.size = w6.heap.size := by simp
  have hSub : Sub (pm (Free (w0.heap.size + 3) kv lv) w) (pm (Free (w0.heap.size + 3) kv lv') w6) := free_right hbA hg hwh
  have hSet : Sub (pm (Free (w0.heap.size + 3) kv lv') w6) (pm (Free (w0.heap.size + 3) kv lv') (w6.setCell ⟨w0.heap.size + 1 + 1, 4, none⟩ lv')) :=
    pm_pm (by rw [hss]; exact Nat.le_refl _) fun k hk _ => ⟨hk, hset k (by have := hk.1; omega)⟩
  refine ⟨?_, ?_, ?_, ?_, ?_, by simp [h.len], ?_, ?_, ?_⟩
  · exact ((hset _ (by omega)).trans (hkeep _ (by omega) (fun e => by have := (hlo _ e).1; omega))).trans h.arg
  · exact ((hset _ (by omega)).trans (hkeep _ (by omega) (fun e => by have := (hlo _ e).1; omega))).trans h.z
  · have h6 : w6.heap[w0.heap.size + 1 + 1]? = _ := (hkeep (w0.heap.size + 1 + 1) (by omega) (fun e => by have := (hlo _ e).1; omega)).trans h.out
    exact heap_setCell_same w6 (w0.heap.size + 1 + 1) 4 _ 27 lv' h6
  · exact h.ks.keep fun k hk => (hset k (by have := (hko k hk).1; omega)).trans (hkeep k (hko k hk).2 (fun e => h.ap k hk e))
  · exact ho.keep fun k hk => hset k (by have := (ho.block k hk).1; omega)
  · intro q h1 h2
    by_cases hq : q < xs.length
    · rw [List.getElem_append_left hq]
      exact ((h.sh q h1 hq).sub hSub).sub hSet
    · have hqe : q = j := by have := h.len; simp at h2; omega
      subst hqe
      rw [List.getElem_append_right (by omega)]
      simp only [List.getElem_singleton]
      refine (hx.sub ?_).sub (hSub.trans hSet)
      exact low_pm (B := B) (Q := Free (w0.heap.size + 3) kv lv) (Nat.le_refl _) (fun k hk _ => ⟨⟨by omega, fun e => by have := hkB k e; omega, fun e => by have := hlB k e; omega⟩, rfl⟩)
  · exact (apart_left h.ap.symm hwh (fun k hk => by have := (hko k hk).2; simp; omega)).symm
  · have hb6 : Below w0.heap.size w0 w6 := (h.bel.alloc (by omega) o).grown hg (by simp; omega) (fun k hk => by have := (hlo k hk).1; omega)
    exact below_set hb6 (by show w0.heap.size ≤ w0.heap.size + 1 + 1; omega) _

/-- The answer. -/
theorem CopyR.shows (h : CopyR w0 t kv0 lv0 t.l.length kv lv xs w) (hk : t.k < 256) (hn : t.n < 18446744073709551616) (hkl : t.ks.length ≤ 8796093022208) (hkz : ∀ x ∈ t.ks, x.size ≤ 140737488351232) (hsz : t.s.size ≤ 140737488351232) (hln : t.l.length ≤ 2199023255552) :
    ShowsT (lowm (w0.heap.size + 3) w) t [.int .u8 t.k, .int .u64 t.n, .string t.s, kv, lv] := by
  obtain ⟨A, c, rfl, hLT⟩ := listT_own (h.l.low (Nat.le_refl _)) (by have := h.len; omega) (by omega) (fun q hq => (h.sh q hq (by have := h.len; omega)).sub (pm_low fun k hk => hk.1))
  obtain ⟨gk, _, hks⟩ := (h.ks.low (Nat.le_refl _)).shows
  have := ShowsT.make (k := t.k) (n := t.n) (s := t.s) hk hn hks hkl hkz hsz hLT
  cases t
  exact this
end

def CopySaid (t : Tree) (w : World) (e : Ending) (w' : World) : Prop := ∃ vs, e = .returned (.agg vs.toArray) ∧ ShowsT (lowm w.heap.size w') t vs ∧ Below w.heap.size w w'

end Go.Proofs.YtdjahdnaihijjaaGreatDoor
