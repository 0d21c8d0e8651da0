/-
  Texts, together: VgA, VgB.
  Conditions: none but sizes.
-/
import Derived.Test.YtdklhcmoilcpgaaGreatRqPZ
import Derived.Test.YtdklhcmoilcpgaaGreatValXZ
import Derived.Deep.RegionHeld3
set_option linter.unusedVariables false
set_option linter.unusedSimpArgs false
namespace Go.Proofs.YtdklhcmoilcpgaaGreat
open Go.RowKit
theorem BoxV.put5 {w : World} {b : Nat} {o0 o1 o2 o3 o4 : Value} (h : BoxV w b o0 o1 o2 o3 o4) (a0 a1 a2 a3 a4 : Value) :
  BoxV (((((w.setCell ⟨b, 0, none⟩ a0).setCell ⟨b, 1, none⟩ a1).setCell ⟨b, 2, none⟩ a2).setCell ⟨b, 3, none⟩ a3).setCell ⟨b, 4, none⟩ a4) b a0 a1 a2 a3 a4 := by
 have r1 := heap_setCell_same _ b 0 _ 63 a0 h
 have r2 := heap_setCell_same _ b 1 _ 63 a1 r1
 have r3 := heap_setCell_same _ b 2 _ 63 a2 r2
 have r4 := heap_setCell_same _ b 3 _ 63 a3 r3
 exact heap_setCell_same _ b 4 _ 63 a4 r4
theorem results_v3 {P : Program} {fn : Func} {p u v : Tmp} {ty : TypeId} (h : fn.results = #[.cell p ty, .tmp u, .tmp v]) (tmps : Array Value) (w : World) (g : Nat) (t : TypeId) (cs : Array Value) (fr : Nat × Nat) (d : TypeDesc)
  (hp : tmps.getD p undef = .pointer (some ⟨g, 0, none⟩)) (hg : w.heap[g]? = some (.cells cs t fr))
  (hu : P.underlying ty = some d) (hd : (match d with | .struct _ | .array _ _ => true | _ => false) = true) (hi : (P.info? ty).map (·.size) = some cs.size) :
  (results fn tmps).run P w = .ok (.tuple #[.agg cs, tmps.getD u undef, tmps.getD v undef]) w := by
 have hp' : tmps[p]?.getD undef = .pointer (some ⟨g, 0, none⟩) := by simpa using hp
 simp [results, h, hp', asAddr, run_loadVar_row w g t ty cs fr d hg hu hd hi]
theorem rd_grown {a b c : World} {r : Option Nat} (h : a.grownBy b r) (k : Below b.heap.size b c) : a.grownBy c r :=
 ⟨k.os.trans h.os, k.tape.trans h.tape, k.output.trans h.output, Nat.le_trans h.size k.size, fun i hi hr => (k.block i (Nat.lt_of_lt_of_le hi h.size)).trans (h.block i hi hr)⟩
theorem grown_own {a b c : World} {r row : Option Nat} (h : a.grownBy b r) (k : b.grownBy c row) (hr : ∀ i, row = some i → a.heap.size ≤ i) : a.grownBy c r :=
 ⟨k.os.trans h.os, k.tape.trans h.tape, k.output.trans h.output, Nat.le_trans h.size k.size, fun i hi hn => (k.block i (Nat.lt_of_lt_of_le hi h.size) (fun e => by have := hr i e.symm; omega)).trans (h.block i hi hn)⟩
theorem grown_setN {a b : World} {r : Option Nat} (h : a.grownBy b r) {p : Nat} (hp : a.heap.size ≤ p) (i : Nat) (u : Value) : a.grownBy (b.setCell ⟨p, i, none⟩ u) r :=
 ⟨h.os, h.tape, h.output, by simpa using h.size, fun k hk hn => (Below.heap_setCell _ _ _ _ (by show k ≠ p; omega)).trans (h.block k hk hn)⟩
theorem grown_set5 {a b : World} {r : Option Nat} (h : a.grownBy b r) {p : Nat} (hp : a.heap.size ≤ p) (a0 a1 a2 a3 a4 : Value) :
  a.grownBy (((((b.setCell ⟨p, 0, none⟩ a0).setCell ⟨p, 1, none⟩ a1).setCell ⟨p, 2, none⟩ a2).setCell ⟨p, 3, none⟩ a3).setCell ⟨p, 4, none⟩ a4) r :=
 grown_setN (grown_setN (grown_setN (grown_setN (grown_setN h hp _ _) hp _ _) hp _ _) hp _ _) hp _ _
theorem grown_drew {a b : World} {r : Option Nat} (h : a.grownBy b r) : a.grownBy b.drew r := ⟨h.os, h.tape, h.output, h.size, h.block⟩
theorem BoxV.drw {w : World} {b : Nat} {v0 v1 v2 v3 v4 : Value} (h : BoxV w b v0 v1 v2 v3 v4) : BoxV w.drew b v0 v1 v2 v3 v4 := h
theorem QS.drw {w : World} {g d : Nat} {s : St} (h : QS w g d s) : QS w.drew g d s := h.keep (Nat.le_refl _) rfl (fun _ => rfl)
theorem QS.c1 {w : World} {g d : Nat} {s : St} (h : QS w g d s) : w.cell? ⟨g, 1, none⟩ = some (.bool s.isNone) := by
 cases s with
 | none => rw [cell_of_row w g 1 _ 85 (0, 0) h]; rfl
 | some l => obtain ⟨A, c, h1, _⟩ := h; rw [cell_of_row w g 1 _ 85 (0, 0) h1]; rfl
def ReadSaid (g d : Nat) (w : World) (r : Option (Tree × Nat × St)) (e : Ending) (w' : World) : Prop :=
  w.grownBy w' (some g) ∧ match r with
    | none => ∃ (k n : Nat) (s : ByteArray) (a3 : Option Addr) (n3 c3 : Nat) (a4 : Option Addr) (n4 c4 : Nat) (m : Int), e = .returned (.tuple #[.agg #[.int .u8 k, .int .u64 n, .string s, .slice a3 n3 c3, .slice a4 n4 c4], .int .i64 m, .bool false])
    | some (t, m', s') => ∃ vs, e = .returned (.tuple #[.agg vs.toArray, .int .i64 m', .bool true]) ∧ ShowsT (lowm w.heap.size w') t vs ∧ QS w' g d s'
structure RdR (w0 : World) (g d q p k : Nat) (kv lv : Value) (ks : List ByteArray) (xs : List Cell5) (lT : List Tree) (s : St) (w : World) : Prop where
  g0 : g < w0.heap.size
  dg : d ≤ g
  q0 : w0.heap.size ≤ q
  qp : q < p
  r : BoxV w q (.int .u8 0) (.int .u64 0) (.string ⟨#[]⟩) (.slice none 0 0) (.slice none 0 0)
  v : BoxV w p (.int .u8 k) (.int .u64 0) (.string ⟨#[]⟩) kv lv
  kso : OwnG strC 9 w (p + 1) kv ks
  lo : OwnG valC 63 w (p + 1) lv xs
  len : lT.length = xs.length
  sh : ∀ i (h1 : i < lT.length) (h2 : i < xs.length), ShowsT (pm (Free (p + 1) kv lv) w) lT[i] xs[i].vs
  ap : Apart kv lv
  rd : QS w g d s
  frm : w0.grownBy w (some g)
section
variable {w0 w w' : World} {g d q p k : Nat} {kv lv : Value} {ks : List ByteArray} {xs : List Cell5} {lT : List Tree} {s : St}
theorem RdR.lt (h : RdR w0 g d q p k kv lv ks xs lT s w) : p < w.heap.size := h.v.lt
theorem RdR.read (h : RdR w0 g d q p k kv lv ks xs lT s w) {s' : St} (hq : QS w' g d s') (hg : w.grownBy w' (some g)) : RdR w0 g d q p k kv lv ks xs lT s' w' := by
 have g0 := h.g0
 have q0 := h.q0
 have qp := h.qp
 exact ⟨g0, h.dg, q0, qp, (hg.block q h.r.lt (fun e => by have := Option.some.inj e; omega)).trans h.r, (hg.block p h.v.lt (fun e => by have := Option.some.inj e; omega)).trans h.v,
  h.kso.keep (fun i hi => hg.block i (h.kso.block i hi).2 (fun e => by have := Option.some.inj e; have := (h.kso.block i hi).1; omega)),
  h.lo.keep (fun i hi => hg.block i (h.lo.block i hi).2 (fun e => by have := Option.some.inj e; have := (h.lo.block i hi).1; omega)), h.len,
  fun i h1 h2 => (h.sh i h1 h2).sub (pm_pm hg.size fun j hj hjw => ⟨hj, hg.block j hjw (fun e => by have := Option.some.inj e; have := hj.1; omega)⟩), h.ap, hq, grown_trans' h.frm hg⟩
theorem RdR.step (h : RdR w0 g d q p k kv lv ks xs lT s w) (hb : Below w.heap.size w w') : RdR w0 g d q p k kv lv ks xs lT s w' :=
 ⟨h.g0, h.dg, h.q0, h.qp, h.r.kept hb (Nat.le_refl _), h.v.kept hb (Nat.le_refl _), h.kso.below hb (Nat.le_refl _), h.lo.below hb (Nat.le_refl _), h.len,
  fun i h1 h2 => (h.sh i h1 h2).sub (pm_pm hb.size fun j hj hjw => ⟨hj, hb.block j hjw⟩), h.ap, h.rd.keep hb.size (hb.block g h.rd.lt) (fun hd => hb.block d hd), rd_grown h.frm hb⟩
theorem RdR.key (h : RdR w0 g d q p k kv lv ks xs lT s w) {x : ByteArray} {o : Obj} {kv' : Value} {w6 : World} (ho : OwnG strC 9 w6 (p + 1) kv' (ks ++ [x])) (hg : (w.alloc o).grownBy w6 kv.ownBlock) (hwh : kv'.ownBlock = kv.ownBlock ∨ kv'.ownBlock = some (w.alloc o).heap.size) :
  RdR w0 g d q p k kv' lv (ks ++ [x]) xs lT s (w6.setCell ⟨p, 3, none⟩ kv') := by
 have g0 := h.g0
 have dg := h.dg
 have q0 := h.q0
 have qp := h.qp
 have hlt := h.lt
 have hbA : Below w.heap.size w (w.alloc o) := (Below.refl _ _).alloc (Nat.le_refl _) _
 have hlo : ∀ k, lv.ownBlock = some k → p + 1 ≤ k ∧ k < w.heap.size := h.lo.block
 have hko : ∀ k, kv.ownBlock = some k → p + 1 ≤ k ∧ k < w.heap.size := h.kso.block
 have hs6 : w.heap.size ≤ w6.heap.size := by have := hg.size; simp at this; omega
 have hkeep : ∀ k, k < w.heap.size → kv.ownBlock ≠ some k → w6.heap[k]? = w.heap[k]? := fun k hk hne => (hg.block k (by simp; omega) (fun e => hne e.symm)).trans (hbA.block k hk)
 have hset : ∀ k, k ≠ p → (w6.setCell ⟨p, 3, none⟩ kv').heap[k]? = w6.heap[k]? := fun k hk => Below.heap_setCell _ _ _ _ (by show k ≠ _; exact hk)
 have hss : (w6.setCell ⟨p, 3, none⟩ kv').heap.size = w6.heap.size := by simp
 have hSub : Sub (pm (Free (p + 1) kv lv) w) (pm (Free (p + 1) kv' lv) w6) := free_left hbA hg hwh
 have hSet : Sub (pm (Free (p + 1) kv' lv) w6) (pm (Free (p + 1) kv' lv) (w6.setCell ⟨p, 3, none⟩ kv')) :=
  pm_pm (by rw [hss]; exact Nat.le_refl _) fun k hk _ => ⟨hk, hset k (by have := hk.1; omega)⟩
 have hlow : ∀ k, k ≤ p → kv.ownBlock ≠ some k := fun k hk e => by have := (hko _ e).1; omega
 refine ⟨g0, dg, q0, qp, ?_, ?_, ?_, ?_, h.len, fun i h1 h2 => ((h.sh i h1 h2).sub hSub).sub hSet, ?_, ?_, ?_⟩
 ·exact ((hset _ (by omega)).trans (hkeep _ (by omega) (hlow _ (by omega)))).trans h.r
 ·have h6 : w6.heap[p]? = _ := (hkeep p hlt (hlow _ (by omega))).trans h.v
  exact heap_setCell_same w6 p 3 _ 63 kv' h6
 ·exact ho.keep fun k hk => hset k (by have := (ho.block k hk).1; omega)
 ·exact h.lo.keep fun k hk => (hset k (by have := (hlo k hk).1; omega)).trans (hkeep k (hlo k hk).2 (fun e => h.ap k e hk))
 ·exact apart_left h.ap hwh (fun k hk => by have := (hlo k hk).2; simp; omega)
 ·exact h.rd.keep (by rw [hss]; exact hs6) ((hset g (by omega)).trans (hkeep g (by omega) (hlow _ (by omega)))) (fun hd => (hset d (by omega)).trans (hkeep d hd (hlow _ (by omega))))
 ·exact grown_setN (grown_own (rd_grown h.frm hbA) hg (fun i hi => by have := (hko i hi).1; omega)) (by omega) _ _
theorem RdR.val (h : RdR w0 g d q p k kv lv ks xs lT s w) {B : Nat} (hB : B ≤ w.heap.size) (hB0 : p + 1 ≤ B) (hkB : ∀ k, kv.ownBlock = some k → k < B) (hlB : ∀ k, lv.ownBlock = some k → k < B) {t : Tree} {x : Cell5} (hx : ShowsT (lowm B w) t x.vs)
  {o : Obj} {lv' : Value} {w6 : World} (ho : OwnG valC 63 w6 (p + 1) lv' (xs ++ [x])) (hg : (w.alloc o).grownBy w6 lv.ownBlock) (hwh : lv'.ownBlock = lv.ownBlock ∨ lv'.ownBlock = some (w.alloc o).heap.size) :
  RdR w0 g d q p k kv lv' ks (xs ++ [x]) (lT ++ [t]) s (w6.setCell ⟨p, 4, none⟩ lv') := by
 have g0 := h.g0
 have dg := h.dg
 have q0 := h.q0
 have qp := h.qp
 have hlt := h.lt
 have hbA : Below w.heap.size w (w.alloc o) := (Below.refl _ _).alloc (Nat.le_refl _) _
 have hlo : ∀ k, lv.ownBlock = some k → p + 1 ≤ k ∧ k < w.heap.size := h.lo.block
 have hko : ∀ k, kv.ownBlock = some k → p + 1 ≤ k ∧ k < w.heap.size := h.kso.block
 have hs6 : w.heap.size ≤ w6.heap.size := by have := hg.size; simp at this; omega
 have hkeep : ∀ k, k < w.heap.size → lv.ownBlock ≠ some k → w6.heap[k]? = w.heap[k]? := fun k hk hne => (hg.block k (by simp; omega) (fun e => hne e.symm)).trans (hbA.block k hk)
 have hset : ∀ k, k ≠ p → (w6.setCell ⟨p, 4, none⟩ lv').heap[k]? = w6.heap[k]? := fun k hk => Below.heap_setCell _ _ _ _ (by show k ≠ _; exact hk)
 have hss : (w6.setCell ⟨p, 4, none⟩ lv').heap.size = w6.heap.size := by simp
 have hSub : Sub (pm (Free (p + 1) kv lv) w) (pm (Free (p + 1) kv lv') w6) := free_right hbA hg hwh
 have hSet : Sub (pm (Free (p + 1) kv lv') w6) (pm (Free (p + 1) kv lv') (w6.setCell ⟨p, 4, none⟩ lv')) :=
  pm_pm (by rw [hss]; exact Nat.le_refl _) fun k hk _ => ⟨hk, hset k (by have := hk.1; omega)⟩
 have hlow : ∀ k, k ≤ p → lv.ownBlock ≠ some k := fun k hk e => by have := (hlo _ e).1; omega
 refine ⟨g0, dg, q0, qp, ?_, ?_, ?_, ?_, by simp [h.len], ?_, ?_, ?_, ?_⟩
 ·exact ((hset _ (by omega)).trans (hkeep _ (by omega) (hlow _ (by omega)))).trans h.r
 ·have h6 : w6.heap[p]? = _ := (hkeep p hlt (hlow _ (by omega))).trans h.v
  exact heap_setCell_same w6 p 4 _ 63 lv' h6
 ·exact h.kso.keep fun k hk => (hset k (by have := (hko k hk).1; omega)).trans (hkeep k (hko k hk).2 (fun e => h.ap k hk e))
 ·exact ho.keep fun k hk => hset k (by have := (ho.block k hk).1; omega)
 ·intro i h1 h2
  have hlen := h.len
  by_cases hi : i < xs.length
  ·rw [List.getElem_append_left hi, List.getElem_append_left (by omega)]
   exact ((h.sh i (by omega) hi).sub hSub).sub hSet
  ·rw [List.getElem_append_right (by omega), List.getElem_append_right (by omega)]
   simp only [List.getElem_singleton]
   refine (hx.sub ?_).sub (hSub.trans hSet)
   exact low_pm (B := B) (Q := Free (p + 1) kv lv) (Nat.le_refl _) (fun k hk _ => ⟨⟨by omega, fun e => by have := hkB k e; omega, fun e => by have := hlB k e; omega⟩, rfl⟩)
 ·exact (apart_left h.ap.symm hwh (fun k hk => by have := (hko k hk).2; simp; omega)).symm
 ·exact h.rd.keep (by rw [hss]; exact hs6) ((hset g (by omega)).trans (hkeep g (by omega) (hlow _ (by omega)))) (fun hd => (hset d (by omega)).trans (hkeep d hd (hlow _ (by omega))))
 ·exact grown_setN (grown_own (rd_grown h.frm hbA) hg (fun i hi => by have := (hlo i hi).1; omega)) (by omega) _ _
theorem RdR.shows (h : RdR w0 g d q p k kv lv ks xs lT s w) (hk : k < 256) (hkl : ks.length ≤ 8796093022208) (hkz : ∀ x ∈ ks, x.size ≤ 140737488351232) (hln : lT.length ≤ 2199023255552) :
  ∃ a3 n3 c3 a4 n4 c4, kv = .slice a3 n3 c3 ∧ lv = .slice a4 n4 c4 ∧ ShowsT (lowm (p + 1) w) (.node k 0 ⟨#[]⟩ ks lT) [.int .u8 k, .int .u64 (0 : Nat), .string ⟨#[]⟩, .slice a3 n3 c3, .slice a4 n4 c4] := by
 obtain ⟨A, c, e1, hLT⟩ := listT_own (h.lo.low (Nat.le_refl _)) (by have := h.len; omega) (by omega) (fun i hi => (h.sh i hi (by have := h.len; omega)).sub (pm_low fun k hk => hk.1))
 obtain ⟨gk, _, hks⟩ := (h.kso.low (Nat.le_refl _)).shows
 obtain ⟨A3, c3, e2⟩ := str_form hks
 subst e1
 subst e2
 exact ⟨_, _, _, _, _, _, rfl, rfl, ShowsT.make hk (by decide) hks (by omega) (fun x hx => by have := hkz x hx; omega) (by decide) hLT⟩
end
end Go.Proofs.YtdklhcmoilcpgaaGreat
namespace Go.Proofs.YtdklhcmoilcpgaaGreat
open Go.RowKit
set_option maxRecDepth 100000 in
set_option maxHeartbeats 4000000 in
theorem read_stop (D : Nat) (m : Int) (g d : Nat) (s : St) (w : World) (hQ : QS w g d s) (hs : lenS s ≤ 40000) (hD : D ≤ 7) (hm : 0 ≤ m ∧ m ≤ 200) (hst : m - 1 < 0 ∨ (6 : Int) < (D : Int)) :
  Calls Tryz.prog 111 #[.pointer (some ⟨g, 0, none⟩), .int .i64 D, .int .i64 m] w (ReadSaid g d w none) := by
 unfold ReadSaid
 obtain ⟨hm0, hm2⟩ := hm
 have hglt := hQ.lt
 obtain ⟨W0, hW0⟩ : ∃ W0, W0 = w.alloc (Obj.cells #[.int .u8 0, .int .u64 0, .string ⟨#[]⟩, .slice none 0 0, .slice none 0 0] 63) := ⟨_, rfl⟩
 have hb0 : Below w.heap.size w W0 := by rw [hW0]; exact below_boxV _ _
 have hs0 : W0.heap.size = w.heap.size + 1 := by rw [hW0]; simp
 have hQ0 := hQ.keep hb0.size (hb0.block g hglt) (fun hd => hb0.block d hd)
 have hX0 : BoxV W0 w.heap.size (.int .u8 0) (.int .u64 0) (.string ⟨#[]⟩) (.slice none 0 0) (.slice none 0 0) := by rw [hW0]; exact BoxV.new w
 have hg0 : w.grownBy W0 (some g) := rd_grown (grown_refl w _) hb0
 have HNU := Lib.hid (qnum_any g d s 1 W0 hQ0 (by omega))
 have hk := numS1_lt s
 generalize (numS 1 s).2 = s1 at *
 generalize (numS 1 s).1 = k at *
 have hk8 : IntKind.u8.wrap (k : Int) = (k : Int) := by rw [IntKind.wrap_u8]; omega
 have HX0 := Lib.hid hX0
 have HG0 := Lib.hid hg0
 have HS0 := Lib.hid hs0
 clear hQ hb0 hs0 hQ0 hX0 hg0
 go_enter Tryz.func111, Tryz.ntmps111
 go_wp2_with fail
 rw [← hW0]
 have HW0 := Lib.hid hW0
 clear hW0
 refine HNU.out.mono ?_
 rintro e w1 ⟨rfl, hq1, hg1⟩
 have hX1 : BoxV w1 w.heap.size (.int .u8 0) (.int .u64 0) (.string ⟨#[]⟩) (.slice none 0 0) (.slice none 0 0) := (hg1.block _ (by rw [HS0.out]; omega) (fun e => by have := Option.some.inj e; omega)).trans HX0.out
 have hG1 := grown_trans' HG0.out hg1
 have hs1 := hX1.lt
 go_upto_region 3 with fail
 obtain ⟨W2, hW2⟩ : ∃ W2, W2 = w1.alloc (Obj.cells #[.int .u8 k, .int .u64 0, .string ⟨#[]⟩, .slice none 0 0, .slice none 0 0] 63) := ⟨_, rfl⟩
 have hb2 : Below w1.heap.size w1 W2 := by rw [hW2]; exact below_boxV _ _
 have hs2 : W2.heap.size = w1.heap.size + 1 := by rw [hW2]; simp
 have hV2 : BoxV W2 w1.heap.size (.int .u8 k) (.int .u64 0) (.string ⟨#[]⟩) (.slice none 0 0) (.slice none 0 0) := by rw [hW2]; exact BoxV.new w1
 have hX2 := hX1.kept hb2 (Nat.le_refl _)
 have hq2 := hq1.keep hb2.size (hb2.block g hq1.lt) (fun hd => hb2.block d hd)
 have hG2 := rd_grown hG1 hb2
 rw [← hW2]
 clear hW2 hb2 hX1 hq1 hG1 hg1
 have v0 := hV2.c0
 have v1 := hV2.c1
 have v2 := hV2.c2
 have v3 := hV2.c3
 have v4 := hV2.c4
 have x0 := hX2.c0
 have x1 := hX2.c1
 have x2 := hX2.c2
 have x3 := hX2.c3
 have x4 := hX2.c4
 have fz := hX2.fr
 have R5 := Lib.hid (hX2.put5 (.int .u8 k) (.int .u64 0) (.string ⟨#[]⟩) (.slice none 0 0) (.slice none 0 0))
 have HG2 := Lib.hid hG2
 clear hX2 hV2 hq2 hG2
 by_cases hM : m - 1 < 0
 ·have hMb : decide (m - 1 < 0) = true := by simpa using hM
  go_wp2_with fail
  refine bodyPost_ret (results_v3 rfl _ _ w.heap.size 63 _ (0, 0) _ rfl R5.out Tryz.underlying63 rfl (by kernel_rfl)) rfl ?_
  exact ⟨grown_set5 HG2.out (Nat.le_refl _) _ _ _ _ _, k, 0, _, _, _, _, _, _, _, _, rfl⟩
 ·have hMb : decide (m - 1 < 0) = false := by simpa using hM
  have hDb : (6 : Int) < (D : Int) := hst.resolve_left hM
  go_wp2_with fail
  refine bodyPost_ret (results_v3 rfl _ _ w.heap.size 63 _ (0, 0) _ rfl R5.out Tryz.underlying63 rfl (by kernel_rfl)) rfl ?_
  exact ⟨grown_set5 HG2.out (Nat.le_refl _) _ _ _ _ _, k, 0, _, _, _, _, _, _, _, _, rfl⟩
theorem read_end {g d n : Nat} {w : World} {k nn : Nat} {st : ByteArray} {a3 : Option Addr} {n3 c3 : Nat} {a4 : Option Addr} {n4 c4 : Nat} {ks : List ByteArray} {l : List Tree} {s : St} {W' : World} {kv nv : Value} (hk : kv = .int .u8 (k : Nat)) (hn : nv = .int .u64 (nn : Nat))
  (hg : w.grownBy W' (some g)) (hq : QS W' g d s) (hsh : s ≠ none → ShowsT (lowm w.heap.size W') (.node k nn st ks l) [.int .u8 k, .int .u64 nn, .string st, .slice a3 n3 c3, .slice a4 n4 c4]) :
  ReadSaid g d w (finP (.node k nn st ks l) n s) (.returned (.tuple #[.agg #[kv, nv, .string st, .slice a3 n3 c3, .slice a4 n4 c4], .int .i64 n, .bool s.isSome])) W' := by
 subst hk hn
 unfold ReadSaid finP
 refine ⟨hg, ?_⟩
 cases s with
 | none =>
  rw [if_pos rfl]
  exact ⟨k, nn, st, a3, n3, c3, a4, n4, c4, n, rfl⟩
 | some l' =>
  rw [if_neg (by simp)]
  exact ⟨_, rfl, hsh (by simp), hq⟩
theorem read_none {g d : Nat} {w : World} {k nn : Nat} {st : ByteArray} {a3 : Option Addr} {n3 c3 : Nat} {a4 : Option Addr} {n4 c4 : Nat} {W' : World} {kv nv : Value} {m : Int} (hk : kv = .int .u8 (k : Nat)) (hn : nv = .int .u64 (nn : Nat))
  (hg : w.grownBy W' (some g)) : ReadSaid g d w none (.returned (.tuple #[.agg #[kv, nv, .string st, .slice a3 n3 c3, .slice a4 n4 c4], .int .i64 m, .bool false])) W' := by
 subst hk hn
 exact ⟨hg, k, nn, st, a3, n3, c3, a4, n4, c4, m, rfl⟩
theorem leaf_shows {k n : Nat} {s : ByteArray} {w : World} (hk : k < 256) (hn : n < 18446744073709551616) (hs : s.size ≤ 140737488351232) :
  ShowsT w (.node k n s [] []) [.int .u8 k, .int .u64 n, .string s, .slice none 0 0, .slice none 0 0] :=
 ShowsT.make (k := k) (n := n) (s := s) (ks := []) (l := []) hk hn (ShowsG.nil_ _ _ 0) (by simp) (by simp) hs (ListT.nil _)
end Go.Proofs.YtdklhcmoilcpgaaGreat
