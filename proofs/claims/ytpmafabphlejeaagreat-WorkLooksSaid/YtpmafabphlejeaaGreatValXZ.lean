/-
  The contract of the document's own Copy.
  Conditions: at most 1000 values.
-/
import Derived.Deep.RegionWith
import Derived.Deep.RegionLaw
import Derived.Deep.CutRange
import Derived.Deep.DeepCutAuto
import Derived.Deep.CutBlock
import Derived.Test.YtpmafabphlejeaaGreatValIZ
namespace Go.Proofs.YtpmafabphlejeaaGreat
open Go.RowKit
set_option linter.unusedVariables false
set_option linter.unusedSimpArgs false

/-- An append at a step of a region that draws its order, and where it leaves its row. -/
theorem step_appendW {α : Type} (C : Code α) {P : Program} (w : World) {ops : Array Oper} {o : Oper} {a : Act} {K : Act → World → Prop} {Q : Exit → Act → World → Prop} {E : Prop} (hgd : o.guard = none) (s x : Operand) (t : TypeId)
    (ho : o.op = .call { callee := .builtin .append, args := #[s, x], argTypes := #[t, t] })
    (base : Nat) (e : TypeId) (z : Value) (bytes : Nat) (ht : P.underlying t = some (.slice e)) (hi : (P.info? e).map (fun i => (i.zero, i.size, i.bytes)) = some (some z, C.sz, bytes)) (hzs : z.cells.size = C.sz)
    (v : Value) (l : List α) (hs : a.eval s = v) (hown : OwnG C e w base v l) (d : Nat) (y : Value) (m : List α) (hx : a.eval x = y) (hm : ShowsG C w d y m) (hm0 : 0 < m.length)
    (hb : (l.length + m.length) * bytes ≤ 140737488355328) (hb63 : l.length + m.length ≤ 140737488355328) (hbase : base ≤ w.heap.size)
    (h : ∀ v' w', OwnG C e w' base v' (l ++ m) → w.grownBy w' v.ownBlock → (v'.ownBlock = v.ownBlock ∨ v'.ownBlock = some w.heap.size) → K (a.put o.dst v') w') :
    if Region.wanted o (yielded ops a.tmps) = true then Oper.wp P o a w K Q else E := by
  have hw : Region.wanted o (yielded ops a.tmps) = true := by simp [Region.wanted, hgd]
  rw [if_pos hw]
  obtain ⟨i, hi0, hz, hs1, hb1⟩ := info_parts hi
  obtain ⟨v', w', hr, h2, h3⟩ := run_appendG (P := P) (C := C) t o.type i z bytes ht hi0 hz hs1 hb1 hzs hown y m hm hb (by simp only [maxLen]; omega) hbase
  have h4 := append_where (P := P) (C := C) t o.type i z bytes ht hi0 hz hs1 hb1 hown y m d hm hm0 hb (by simp only [maxLen]; omega) v' w' hr
  unfold Oper.wp execOp
  simp only [ho, resolve, invoke, builtin, Sem.run_bind, Sem.run_pure, Result.andThen_ok, List.map_toArray, List.map_cons, List.map_nil, hs, hx, hr]
  exact h v' w' h2 h3 h4

theorem BoxV.fr {w : World} {b : Nat} {v0 v1 v2 v3 v4 : Value} (h : BoxV w b v0 v1 v2 v3 v4) (i : Nat) : w.frozen? ⟨b, i, none⟩ = false := frozen_of_row w b i _ 31 h

/-- Copy in its loop: the argument's box, the answer's, its own with the keys and the first values. -/
structure CopyR (w0 : World) (t : Tree) (kv0 lv0 : Value) (j : Nat) (kv lv : Value) (xs : List Cell5) (w : World) : Prop where
  arg : BoxV w w0.heap.size (.int .u8 t.k) (.int .u64 t.n) (.string t.s) kv0 lv0
  z : BoxV w (w0.heap.size + 1) (.int .u8 0) (.int .u64 0) (.string ⟨#[]⟩) (.slice none 0 0) (.slice none 0 0)
  out : BoxV w (w0.heap.size + 1 + 1) (.int .u8 t.k) (.int .u64 t.n) (.string t.s) kv lv
  ks : OwnG strC 9 w (w0.heap.size + 3) kv t.ks
  l : OwnG valC 31 w (w0.heap.size + 3) lv xs
  len : xs.length = j
  sh : ∀ q (h1 : q < t.l.length) (h2 : q < xs.length), ShowsT (pm (Free (w0.heap.size + 3) kv lv) w) t.l[q] xs[q].vs
  ap : Apart kv lv
  bel : Below w0.heap.size w0 w
section
variable {w0 w w' : World} {t : Tree} {kv0 lv0 : Value} {j : Nat} {kv lv : Value} {xs : List Cell5}
theorem CopyR.lt (h : CopyR w0 t kv0 lv0 j kv lv xs w) : w0.heap.size + 3 ≤ w.heap.size := by
  have := h.out.lt
  omega
theorem CopyR.drew (h : CopyR w0 t kv0 lv0 j kv lv xs w) : CopyR w0 t kv0 lv0 j kv lv xs w.drew :=
  ⟨h.arg, h.z, h.out, h.ks.keep fun _ _ => rfl, h.l.keep fun _ _ => rfl, h.len, fun q h1 h2 => (h.sh q h1 h2).sub (pm_pm (Nat.le_refl _) fun k hk _ => ⟨hk, rfl⟩), h.ap, below_drew1 h.bel⟩
theorem CopyR.step (h : CopyR w0 t kv0 lv0 j kv lv xs w) (hb : Below w.heap.size w w') : CopyR w0 t kv0 lv0 j kv lv xs w' :=
  ⟨h.arg.kept hb (Nat.le_refl _), h.z.kept hb (Nat.le_refl _), h.out.kept hb (Nat.le_refl _), h.ks.below hb (Nat.le_refl _), h.l.below hb (Nat.le_refl _), h.len,
    fun q h1 h2 => (h.sh q h1 h2).sub (pm_pm hb.size fun k hk hkw => ⟨hk, hb.block k hkw⟩), h.ap, h.bel.trans (hb.mono h.bel.size)⟩

/-- One value more. -/
theorem CopyR.push (h : CopyR w0 t kv0 lv0 j kv lv xs w) {B : Nat} (hB : B ≤ w.heap.size) (hB0 : w0.heap.size + 3 ≤ B) (hkB : ∀ k, kv.ownBlock = some k → k < B) (hlB : ∀ k, lv.ownBlock = some k → k < B) (hj : j < t.l.length) {x : Cell5} (hx : ShowsT (lowm B w) (t.l[j]'hj) x.vs)
    {o : Obj} {lv' : Value} {w6 : World} (ho : OwnG valC 31 w6 (w0.heap.size + 3) lv' (xs ++ [x])) (hg : (w.alloc o).grownBy w6 lv.ownBlock) (hwh : lv'.ownBlock = lv.ownBlock ∨ lv'.ownBlock = some (w.alloc o).heap.size) :
    CopyR w0 t kv0 lv0 (j + 1) kv lv' (xs ++ [x]) (w6.setCell ⟨w0.heap.size + 1 + 1, 4, none⟩ lv') := by
  have hlt := h.lt
  have hbA : Below w.heap.size w (w.alloc o) := (Below.refl _ _).alloc (Nat.le_refl _) _
  have hlo : ∀ k, lv.ownBlock = some k → w0.heap.size + 3 ≤ k ∧ k < w.heap.size := h.l.block
  have hko : ∀ k, kv.ownBlock = some k → w0.heap.size + 3 ≤ k ∧ k < w.heap.size := h.ks.block
  have hs6 : w.heap.size ≤ w6.heap.size := by have := hg.size; simp at this; omega
  have hkeep : ∀ k, k < w.heap.size → lv.ownBlock ≠ some k → w6.heap[k]? = w.heap[k]? := fun k hk hne => (hg.block k (by simp; omega) (fun e => hne e.symm)).trans (hbA.block k hk)
  have hset : ∀ k, k ≠ w0.heap.size + 1 + 1 → (w6.setCell ⟨w0.heap.size + 1 + 1, 4, none⟩ lv').heap[k]? = w6.heap[k]? := fun k hk => Below.heap_setCell _ _ _ _ (by show k ≠ _; exact hk)
  have hss : (w6.setCell ⟨w0.heap.size + 1 + 1, 4, none⟩ lv').heap.size = w6.heap.size := by simp
  have hSub : Sub (pm (Free (w0.heap.size + 3) kv lv) w) (pm (Free (w0.heap.size + 3) kv lv') w6) := free_right hbA hg hwh
  have hSet : Sub (pm (Free (w0.heap.size + 3) kv lv') w6) (pm (Free (w0.heap.size + 3) kv lv') (w6.setCell ⟨w0.heap.size + 1 + 1, 4, none⟩ lv')) :=
    pm_pm (by rw [hss]; exact Nat.le_refl _) fun k hk _ => ⟨hk, hset k (by have := hk.1; omega)⟩
  refine ⟨?_, ?_, ?_, ?_, ?_, by simp [h.len], ?_, ?_, ?_⟩
  · exact ((hset _ (by omega)).trans (hkeep _ (by omega) (fun e => by have := (hlo _ e).1; omega))).trans h.arg
  · exact ((hset _ (by omega)).trans (hkeep _ (by omega) (fun e => by have := (hlo _ e).1; omega))).trans h.z
  · have h6 : w6.heap[w0.heap.size + 1 + 1]? = _ := (hkeep (w0.heap.size + 1 + 1) (by omega) (fun e => by have := (hlo _ e).1; omega)).trans h.out
    exact heap_setCell_same w6 (w0.heap.size + 1 + 1) 4 _ 31 lv' h6
  · exact h.ks.keep fun k hk => (hset k (by have := (hko k hk).1; omega)).trans (hkeep k (hko k hk).2 (fun e => h.ap k hk e))
  · exact ho.keep fun k hk => hset k (by have := (ho.block k hk).1; omega)
  · intro q h1 h2
    by_cases hq : q < xs.length
    · rw [List.getElem_append_left hq]
      exact ((h.sh q h1 hq).sub hSub).sub hSet
    · have hqe : q = j := by have := h.len; simp at h2; omega
      subst hqe
      rw [List.getElem_append_right (by omega)]
      simp only [List.getElem_singleton]
      refine (hx.sub ?_).sub (hSub.trans hSet)
      exact low_pm (B := B) (Q := Free (w0.heap.size + 3) kv lv) (Nat.le_refl _) (fun k hk _ => ⟨⟨by omega, fun e => by have := hkB k e; omega, fun e => by have := hlB k e; omega⟩, rfl⟩)
  · exact (apart_left h.ap.symm hwh (fun k hk => by have := (hko k hk).2; simp; omega)).symm
  · have hb6 : Below w0.heap.size w0 w6 := (h.bel.alloc (by omega) o).grown hg (by simp; omega) (fun k hk => by have := (hlo k hk).1; omega)
    exact below_set hb6 (by show w0.heap.size ≤ w0.heap.size + 1 + 1; omega) _

/-- The answer. -/
theorem CopyR.shows (h : CopyR w0 t kv0 lv0 t.l.length kv lv xs w) (hk : t.k < 256) (hn : t.n < 18446744073709551616) (hkl : t.ks.length ≤ 8796093022208) (hkz : ∀ x ∈ t.ks, x.size ≤ 140737488351232) (hsz : t.s.size ≤ 140737488351232) (hln : t.l.length ≤ 2199023255552) :
    ShowsT (lowm (w0.heap.size + 3) w) t [.int .u8 t.k, .int .u64 t.n, .string t.s, kv, lv] := by
  obtain ⟨A, c, rfl, hLT⟩ := listT_own (h.l.low (Nat.le_refl _)) (by have := h.len; omega) (by omega) (fun q hq => (h.sh q hq (by have := h.len; omega)).sub (pm_low fun k hk => hk.1))
  obtain ⟨gk, _, hks⟩ := (h.ks.low (Nat.le_refl _)).shows
  have := ShowsT.make (k := t.k) (n := t.n) (s := t.s) hk hn hks hkl hkz hsz hLT
  cases t
  exact this
end

def CopySaid (t : Tree) (w : World) (e : Ending) (w' : World) : Prop := ∃ vs, e = .returned (.agg vs.toArray) ∧ ShowsT (lowm w.heap.size w') t vs ∧ Below w.heap.size w w'

set_option maxRecDepth 100000 in
set_option maxHeartbeats 8000000 in
theorem copy_any (N : Nat) : ∀ (t : Tree) (vs : List Value) (w : World), cntT t = N → ShowsT w t vs → cntT t ≤ 1000 →
    Calls Tryz.prog 84 #[.agg vs.toArray] w (CopySaid t w) := by
  induction N using Nat.strongRecOn with
  | ind N ih =>
  intro t vs w hN h hc
  have IH := Lib.hid (fun j (hj : j < t.l.length) vs w' (hs : ShowsT w' (t.l[j]'hj) vs) => ih _ (by rw [← hN]; exact cnt_child t j hj) _ vs w' rfl hs (by have := cnt_child t j hj; omega))
  unfold CopySaid
  obtain ⟨kv, A, c, d0, d1, cs, rfl, hk, hn, hks, hkl, hkz, hsz, hln, hlc, hcm, _⟩ := h.open
  obtain ⟨A3, c3, rfl⟩ := str_form hks
  have hl1000 : t.l.length ≤ 1000 := by
    have h1 := cntT_eq t
    have h2 : ∀ l : List Tree, l.length ≤ cntL l := by
      intro l
      induction l with
      | nil => simp
      | cons a r ihr =>
        have : cntL (a :: r) = cntT a + cntL r := rfl
        have := cntT_eq a
        simp
        omega
    have := h2 t.l
    omega
  have HCH := Lib.hid (fun j (hj : j < t.l.length) => h.child j hj)
  have HSHOW := Lib.hid (fun wj lv xs kv (hR : CopyR w t (.slice A3 t.ks.length c3) (.slice A t.l.length c) t.l.length kv lv xs wj) => hR.shows hk hn hkl hkz hsz hln)
  obtain ⟨W3, hW3⟩ : ∃ W3, W3 = ((w.alloc (Obj.cells #[.int .u8 t.k, .int .u64 t.n, .string t.s, .slice A3 t.ks.length c3, .slice A t.l.length c] 31)).alloc (Obj.cells #[.int .u8 0, .int .u64 0, .string ⟨#[]⟩, .slice none 0 0, .slice none 0 0] 31)).alloc (Obj.cells #[.int .u8 t.k, .int .u64 t.n, .string t.s, .slice none 0 0, .slice none 0 0] 31) := ⟨_, rfl⟩
  have hb3 : Below w.heap.size w W3 := by rw [hW3]; exact ((below_boxV _ _).alloc (by simp) _).alloc (by simp; omega) _
  have hs3 : W3.heap.size = w.heap.size + 3 := by rw [hW3]; simp
  have hA3 : BoxV W3 w.heap.size (.int .u8 t.k) (.int .u64 t.n) (.string t.s) (.slice A3 t.ks.length c3) (.slice A t.l.length c) := by
    rw [hW3]; exact ((BoxV.new w).kept ((Below.refl _ _).alloc (Nat.le_refl _) _) (Nat.le_refl _)).kept ((Below.refl _ _).alloc (Nat.le_refl _) _) (Nat.le_refl _)
  have hZ3 : BoxV W3 (w.heap.size + 1) (.int .u8 0) (.int .u64 0) (.string ⟨#[]⟩) (.slice none 0 0) (.slice none 0 0) := by
    rw [hW3]
    have := BoxV.new (v0 := .int .u8 0) (v1 := .int .u64 0) (v2 := .string ⟨#[]⟩) (v3 := .slice none 0 0) (v4 := .slice none 0 0) (w.alloc (Obj.cells #[.int .u8 t.k, .int .u64 t.n, .string t.s, .slice A3 t.ks.length c3, .slice A t.l.length c] 31))
    rw [World.size_alloc] at this
    exact this.kept ((Below.refl _ _).alloc (Nat.le_refl _) _) (Nat.le_refl _)
  have hO3 : BoxV W3 (w.heap.size + 1 + 1) (.int .u8 t.k) (.int .u64 t.n) (.string t.s) (.slice none 0 0) (.slice none 0 0) := by
    rw [hW3]
    have := BoxV.new (v0 := .int .u8 t.k) (v1 := .int .u64 t.n) (v2 := .string t.s) (v3 := .slice none 0 0) (v4 := .slice none 0 0) ((w.alloc (Obj.cells #[.int .u8 t.k, .int .u64 t.n, .string t.s, .slice A3 t.ks.length c3, .slice A t.l.length c] 31)).alloc (Obj.cells #[.int .u8 0, .int .u64 0, .string ⟨#[]⟩, .slice none 0 0, .slice none 0 0] 31))
    rw [World.size_alloc, World.size_alloc] at this
    exact this
  have hks3 := hks.below' hb3 (Nat.le_refl _)
  have x3 := hO3.c3
  have y3 := hA3.c3
  have HB3 := Lib.hid (And.intro hb3 (And.intro hA3 (And.intro hZ3 hO3)))
  have HS3 := Lib.hid hs3
  clear ih hN h hks hkz hc hb3 hA3 hZ3 hO3 hs3
  go_enter Tryz.func84, Tryz.ntmps84
  go_upto_region 2 with fail
  rw [← hW3]
  have HW3 := Lib.hid hW3
  clear hW3
  go_wp2_with (at_builtin
               refine wpList_appendG strC _ rfl (.tmp 13) (.tmp 15) 28 rfl (w.heap.size + 3) 9 (.string ⟨#[]⟩) 16 Tryz.underlying28 infoStr rfl (.slice none 0 0) [] rfl (OwnG.nil_ _ _ _ _) d0 (.slice A3 t.ks.length c3) t.ks rfl hks3 (by simp; omega) (by simp; omega) (by rw [HS3.out]; exact Nat.le_refl _) ?_
               intro v5 w5 ho5 hg5
               rw [List.nil_append] at ho5
               obtain ⟨A5, n5, c5, rfl⟩ : ∃ A n c, v5 = .slice A n c := by
                 obtain ⟨A, c, e, _⟩ := ho5.form
                 exact ⟨_, _, _, e⟩
               have hb5 : Below W3.heap.size W3 w5 := (Below.refl _ _).grown hg5 (Nat.le_refl _) (fun k hk => by cases hk)
               have hX5 := HB3.out.2.2.2.kept hb5 (Nat.le_refl _)
               have x5 := hX5.c3
               have f5 := hX5.fr 3)
  have hb5w : Below w.heap.size w w5 := HB3.out.1.trans (hb5.mono (by rw [HS3.out]; omega))
  have hR0 : CopyR w t (.slice A3 t.ks.length c3) (.slice A t.l.length c) 0 (.slice A5 n5 c5) (.slice none 0 0) [] (w5.setCell ⟨w.heap.size + 1 + 1, 3, none⟩ (.slice A5 n5 c5)) := by
    have hset : ∀ k, k ≠ w.heap.size + 1 + 1 → (w5.setCell ⟨w.heap.size + 1 + 1, 3, none⟩ (.slice A5 n5 c5)).heap[k]? = w5.heap[k]? := fun k hk => Below.heap_setCell _ _ _ _ (by show k ≠ _; exact hk)
    refine ⟨(hset _ (by omega)).trans (HB3.out.2.1.kept hb5 (Nat.le_refl _)), (hset _ (by omega)).trans (HB3.out.2.2.1.kept hb5 (Nat.le_refl _)), heap_setCell_same w5 (w.heap.size + 1 + 1) 3 _ 31 _ hX5, ho5.keep fun k hk => hset k (by have := (ho5.block k hk).1; omega), OwnG.nil_ _ _ _ _, rfl, fun q _ h2 => absurd h2 (by simp), fun k _ h2 => by simp [Value.ownBlock] at h2, below_set hb5w (by show w.heap.size ≤ w.heap.size + 1 + 1; omega) _⟩
  clear x3 y3 hks3 ho5 hg5 hb5 hX5 x5 f5 hb5w
  go_wp2_with fail
  go_loopw [4] (fun i wr => ∃ (j n6 : Nat) (A6 : Option Addr) (c6 : Nat) (xs : List Cell5), j ≤ t.l.length ∧ i = .int .i64 j ∧ CopyR w t (.slice A3 t.ks.length c3) (.slice A t.l.length c) j (.slice A5 n5 c5) (.slice A6 n6 c6) xs wr) (fun i _ => t.l.length - (intOf i).toNat)
  case atStart => exact ⟨0, 0, none, 0, [], by omega, rfl, hR0⟩
  case round =>
    clear hR0
    obtain ⟨j, n6, A6, c6, xs, hj, rfl, hR⟩ := hrel
    rename World => wj
    have x4 := hR.arg.c4
    by_cases hlt : j < t.l.length
    · obtain ⟨d, o, v0, v1, v2, v3, v4, rfl, hd, hch, a0, a1, a2, a3, a4⟩ := HCH.out j hlt
      have hjl : (j : Int) < (t.l.length : Int) := by omega
      have e0 := cell_kept a0 hR.bel (Nat.le_refl _) hd
      have e1 := cell_kept a1 hR.bel (Nat.le_refl _) hd
      have e2 := cell_kept a2 hR.bel (Nat.le_refl _) hd
      have e3 := cell_kept a3 hR.bel (Nat.le_refl _) hd
      have e4 := cell_kept a4 hR.bel (Nat.le_refl _) hd
      have z4 := hR.out.c4
      have hRd := hR.drew
      have HC := Lib.hid (fun w' (hR' : Below w.heap.size w w') => IH.out j hlt _ w' (hch.kept hR' (Nat.le_refl _)))
      have hkB := Lib.hid hR.ks.block
      have hlB := Lib.hid hR.l.block
      have hlt3 := hR.lt
      have hxl := hR.len
      clear hch a0 a1 a2 a3 a4
      go_upto_block 1 with fail
      go_cut [4] from 18 to 35 (fun s4 wx => s4 = .int .i64 j ∧ ∃ (n6 : Nat) (A6 : Option Addr) (c6 : Nat) (xs : List Cell5), CopyR w t (.slice A3 t.ks.length c3) (.slice (some ⟨d, o, none⟩) t.l.length c) (j + 1) (.slice A5 n5 c5) (.slice A6 n6 c6) xs wx)
      case first =>
        have e0' : wj.drew.cell? ⟨d, o + j * 5, none⟩ = _ := e0
        have e1' : wj.drew.cell? ⟨d, o + j * 5 + 1, none⟩ = _ := e1
        have e2' : wj.drew.cell? ⟨d, o + j * 5 + 2, none⟩ = _ := e2
        have e3' : wj.drew.cell? ⟨d, o + j * 5 + 3, none⟩ = _ := e3
        have e4' : wj.drew.cell? ⟨d, o + j * 5 + 4, none⟩ = _ := e4
        have z4' : wj.drew.cell? ⟨w.heap.size + 1 + 1, 4, none⟩ = _ := z4
        have x4' : wj.drew.cell? ⟨w.heap.size, 4, none⟩ = _ := x4
        go_wp2_with fail
        go_region_law (first
          | (go_simp; go_at_call 84
             with_reducible refine (HC.out _ (CopyR.bel (by assumption))).mono ?_
             rintro e w7 ⟨vs7, rfl, hsh7, hb7⟩
             obtain ⟨k7, m7, s7, p3, q3, r3, p4, q4, r4, rfl⟩ := hsh7.cells5
             have hR7 := CopyR.step hRd hb7
             have y4 := hR7.out.c4
             have y4A : (w7.alloc (Obj.cells #[.int .u8 k7, .int .u64 m7, .string s7, .slice p3 q3 r3, .slice p4 q4 r4] 31)).cell? ⟨w.heap.size + 1 + 1, 4, none⟩ = some (.slice A6 n6 c6) := (hR7.out.kept ((Below.refl _ _).alloc (Nat.le_refl _) _) (Nat.le_refl _)).c4)
          | (refine step_appendW valC _ rfl (.tmp 26) (.tmp 33) 29 rfl (w.heap.size + 3) 31 (.agg #[.int .u8 0, .int .u64 0, .string ⟨#[]⟩, .slice none 0 0, .slice none 0 0]) 80 Tryz.underlying29 infoVal rfl (.slice A6 n6 c6) xs rfl (hR7.l.alloc_ _) w7.heap.size (.slice (some ⟨w7.heap.size, 0, none⟩) 1 1) [⟨k7, m7, s7, p3, q3, r3, p4, q4, r4⟩] rfl (ShowsG.lit (C := valC) [⟨k7, m7, s7, p3, q3, r3, p4, q4, r4⟩] (by simp [Code.all, valC, Cell5.vs]) (by simp [maxLen])) (by simp) (by simp; omega) (by simp; omega) (by have := hR7.lt; simp; omega) ?_
             intro v8 w8 ho8 hg8 hwh8
             obtain ⟨A8, n8, c8, rfl⟩ : ∃ A n c, v8 = .slice A n c := by
               obtain ⟨A, c, e, _⟩ := ho8.form
               exact ⟨_, _, _, e⟩
             have hP8 := hR7.push (B := wj.heap.size) hb7.size hlt3 (fun k hk => (hkB.out k hk).2) (fun k hk => (hlB.out k hk).2) hlt (x := ⟨k7, m7, s7, p3, q3, r3, p4, q4, r4⟩) hsh7 ho8 hg8 hwh8
             have hX8 : BoxV w8 (w.heap.size + 1 + 1) (.int .u8 t.k) (.int .u64 t.n) (.string t.s) (.slice A5 n5 c5) (.slice A6 n6 c6) := (hg8.block _ (by have := hR7.out.lt; simp; omega) (fun e => by have := (hlB.out _ e.symm).1; omega)).trans (hR7.out.kept ((Below.refl _ _).alloc (Nat.le_refl _) _) (Nat.le_refl _))
             have u4 := hX8.c4
             have f8 := hX8.fr 4))
        all_goals
          go_wp2_with fail
          go_meet
          exact ⟨rfl, _, _, _, _, hP8⟩
      case rest =>
        obtain ⟨rfl, n8, A8, c8, xs8, hR8⟩ := hcut
        clear hR hRd x4 z4 e0 e1 e2 e3 e4
        go_wp2_with fail
        go_roundw
        case rel => exact ⟨j + 1, n8, A8, c8, xs8, by omega, by go_num, hR8⟩
        case measure => simp [intOf]; omega
    · have hjl : ¬ (j : Int) < (t.l.length : Int) := by omega
      have HJ := Lib.hid (show j = t.l.length by omega)
      have o0 := hR.out.c0
      have o1 := hR.out.c1
      have o2 := hR.out.c2
      have o3 := hR.out.c3
      have o4 := hR.out.c4
      have z0 := hR.z.c0
      have z1 := hR.z.c1
      have z2 := hR.z.c2
      have z3 := hR.z.c3
      have z4 := hR.z.c4
      have fz := hR.z.fr
      have r1 := heap_setCell_same _ (w.heap.size + 1) 0 _ 31 (.int .u8 t.k) hR.z
      have r2 := heap_setCell_same _ (w.heap.size + 1) 1 _ 31 (.int .u64 t.n) r1
      have r3 := heap_setCell_same _ (w.heap.size + 1) 2 _ 31 (.string t.s) r2
      have r4 := heap_setCell_same _ (w.heap.size + 1) 3 _ 31 (.slice A5 n5 c5) r3
      have r5 := heap_setCell_same _ (w.heap.size + 1) 4 _ 31 (.slice A6 n6 c6) r4
      have R5 := Lib.hid r5
      clear r1 r2 r3 r4 r5
      go_wp2_with fail
      have hR' := hR
      rw [HJ.out] at hR'
      have hS := HSHOW.out wj _ xs _ hR'
      refine bodyPost_ret (results_cell_row rfl _ _ (w.heap.size + 1) 31 _ (0, 0) _ rfl R5.out Tryz.underlying31 rfl (by kernel_rfl)) rfl ⟨[.int .u8 t.k, .int .u64 t.n, .string t.s, .slice A5 n5 c5, .slice A6 n6 c6], rfl, ?_, ?_⟩
      · exact (hS.sub (((((low_set (by show w.heap.size + 1 < w.heap.size + 3; omega) _ _).trans (low_set (by show w.heap.size + 1 < w.heap.size + 3; omega) _ _)).trans (low_set (by show w.heap.size + 1 < w.heap.size + 3; omega) _ _)).trans (low_set (by show w.heap.size + 1 < w.heap.size + 3; omega) _ _)).trans (low_set (by show w.heap.size + 1 < w.heap.size + 3; omega) _ _))).sub (low_anti (by omega))
      · exact below_set (below_set (below_set (below_set (below_set hR.bel (by omega) _) (by omega) _) (by omega) _) (by omega) _) (by omega) _
end Go.Proofs.YtpmafabphlejeaaGreat
