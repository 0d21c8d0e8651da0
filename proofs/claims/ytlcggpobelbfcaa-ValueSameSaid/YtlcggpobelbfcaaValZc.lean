/-
  The contract of value.copied.
  Conditions: at most 1000 values.
-/
import Derived.Test.YtlcggpobelbfcaaValZb
import Derived.Deep.RegionLaw
import Derived.Deep.CutRange
import Derived.Deep.DeepCutAuto
import Derived.Deep.CutBlock
namespace Go.Proofs.Ytlcggpobelbfcaa
open Go.RowKit
set_option linter.unusedVariables false
set_option linter.unusedSimpArgs false

/-- Rows of unlike elements lie apart. -/
theorem apart_kinds {α β : Type} {C1 : Code α} {C2 : Code β} {e1 e2 : TypeId} {w : World} {b1 b2 : Nat} {v1 v2 : Value} {l1 : List α} {l2 : List β} (hne : e1 ≠ e2) (h1 : OwnG C1 e1 w b1 v1 l1) (h2 : OwnG C2 e2 w b2 v2 l2) : Apart v1 v2 := by
  intro g hg1 hg2
  rcases h1.2 with ⟨rfl, _⟩ | ⟨g1, c1, cur1, rfl, _, hh1, _⟩
  · cases hg1
  · rcases h2.2 with ⟨rfl, _⟩ | ⟨g2, c2, cur2, rfl, _, hh2, _⟩
    · cases hg2
    · simp only [Value.ownBlock, Option.some.injEq] at hg1 hg2
      subst hg1
      subst hg2
      rw [hh1] at hh2
      simp at hh2
      exact hne hh2.2

/-- copied in its loop. -/
structure CpR (w0 : World) (t : Tree) (kv lv : Value) (B j : Nat) (xs : List Cell5) (w : World) : Prop where
  arg : BoxV w w0.heap.size (.int .u8 t.k) (.int .u64 t.n) (.string t.s) kv lv
  z : BoxV w (w0.heap.size + 1) (.int .u8 0) (.int .u64 0) (.string ⟨#[]⟩) (.slice none 0 0) (.slice none 0 0)
  ks : OwnG strC 9 w (w0.heap.size + 2) kv t.ks
  l : OwnG valC 29 w (w0.heap.size + 2) lv xs
  len : xs.length = t.l.length
  done : ∀ q (h1 : q < t.l.length) (h2 : q < xs.length), q < j → ShowsT (lowm B w) t.l[q] xs[q].vs
  todo : ∀ q (h1 : q < t.l.length) (h2 : q < xs.length), j ≤ q → ShowsT w0 t.l[q] xs[q].vs
  bel : Below w0.heap.size w0 w
  hB : B ≤ w.heap.size
  lo : w0.heap.size + 2 ≤ B
  kB : ∀ k, kv.ownBlock = some k → k < B
  lB : ∀ k, lv.ownBlock = some k → k < B
section
variable {w0 w w' : World} {t : Tree} {kv lv : Value} {B j : Nat} {xs : List Cell5}
theorem CpR.drew (h : CpR w0 t kv lv B j xs w) : CpR w0 t kv lv B j xs w.drew :=
  ⟨h.arg, h.z, h.ks.keep fun _ _ => rfl, h.l.keep fun _ _ => rfl, h.len, fun q h1 h2 h3 => (h.done q h1 h2 h3).sub (low_sub (Nat.le_refl _) fun _ _ _ => rfl), h.todo, below_drew1 h.bel, h.hB, h.lo, h.kB, h.lB⟩
theorem CpR.step (h : CpR w0 t kv lv B j xs w) (hb : Below w.heap.size w w') : CpR w0 t kv lv B j xs w' :=
  ⟨h.arg.kept hb (Nat.le_refl _), h.z.kept hb (Nat.le_refl _), h.ks.below hb (Nat.le_refl _), h.l.below hb (Nat.le_refl _), h.len,
    fun q h1 h2 h3 => (h.done q h1 h2 h3).sub (low_sub hb.size fun k _ hk => hb.block k hk), h.todo, h.bel.trans (hb.mono h.bel.size), Nat.le_trans h.hB hb.size, h.lo, h.kB, h.lB⟩
/-- One value more. -/
theorem CpR.put {b n c : Nat} (h : CpR w0 t kv (.slice (some ⟨b, 0, none⟩) n c) B j xs w) (hj : j < t.l.length) {y : Cell5} (hy : ShowsT (lowm B w) (t.l[j]'hj) y.vs)
    (hkeep : ∀ k, k ≠ b → w'.heap[k]? = w.heap[k]?) (hsz : w.heap.size ≤ w'.heap.size) (hl : OwnG valC 29 w' (w0.heap.size + 2) (.slice (some ⟨b, 0, none⟩) n c) (xs.set j y)) (hbel : Below w0.heap.size w0 w') :
    CpR w0 t kv (.slice (some ⟨b, 0, none⟩) n c) B (j + 1) (xs.set j y) w' := by
  have hjx : j < xs.length := by rw [h.len]; exact hj
  have hbB : b < B := h.lB b rfl
  have hb2 : w0.heap.size + 2 ≤ b := (h.l.block b rfl).1
  have hap : Apart kv (.slice (some ⟨b, 0, none⟩) n c) := apart_kinds (by decide) h.ks h.l
  have hs : Sub (lowm B w) (lowm B w') := low_sub hsz fun k hk _ => hkeep k (by omega)
  have hB := h.hB
  refine ⟨(hkeep _ (by omega)).trans h.arg, (hkeep _ (by omega)).trans h.z, h.ks.keep fun k hk => hkeep k (fun e => hap k hk (by rw [e]; rfl)), hl, by rw [List.length_set]; exact h.len, fun q h1 h2 h3 => ?_, fun q h1 h2 h3 => ?_, hbel, by omega, h.lo, h.kB, h.lB⟩
  · have h2' : q < xs.length := by rw [List.length_set] at h2; exact h2
    by_cases hq : q = j
    · subst hq
      rw [List.getElem_set_self]
      exact hy.sub hs
    · rw [List.getElem_set_ne (fun e => hq e.symm)]
      exact (h.done q h1 h2' (by omega)).sub hs
  · have h2' : q < xs.length := by rw [List.length_set] at h2; exact h2
    rw [List.getElem_set_ne (by omega)]
    exact h.todo q h1 h2' (by omega)
theorem keep5 (w : World) (b j : Nat) (a0 a1 a2 a3 a4 : Value) : ∀ k, k ≠ b → (((((w.setCell ⟨b, j, none⟩ a0).setCell ⟨b, j + 1, none⟩ a1).setCell ⟨b, j + 2, none⟩ a2).setCell ⟨b, j + 3, none⟩ a3).setCell ⟨b, j + 4, none⟩ a4).heap[k]? = w.heap[k]? := fun k hk =>
  ((((heap_setCell_other _ _ _ _ hk).trans (heap_setCell_other _ _ _ _ hk)).trans (heap_setCell_other _ _ _ _ hk)).trans (heap_setCell_other _ _ _ _ hk)).trans (heap_setCell_other _ _ _ _ hk)
theorem size5 (w : World) (b j : Nat) (a0 a1 a2 a3 a4 : Value) : (((((w.setCell ⟨b, j, none⟩ a0).setCell ⟨b, j + 1, none⟩ a1).setCell ⟨b, j + 2, none⟩ a2).setCell ⟨b, j + 3, none⟩ a3).setCell ⟨b, j + 4, none⟩ a4).heap.size = w.heap.size := by simp
theorem belowset5 {B b j : Nat} {w0 w : World} (hb : Below B w0 w) (h : B ≤ b) (a0 a1 a2 a3 a4 : Value) : Below B w0 (((((w.setCell ⟨b, j, none⟩ a0).setCell ⟨b, j + 1, none⟩ a1).setCell ⟨b, j + 2, none⟩ a2).setCell ⟨b, j + 3, none⟩ a3).setCell ⟨b, j + 4, none⟩ a4) :=
  below_set (below_set (below_set (below_set (below_set hb h _) h _) h _) h _) h _
/-- The answer. -/
theorem CpR.shows (h : CpR w0 t kv lv B t.l.length xs w) (hk : t.k < 256) (hn : t.n < 18446744073709551616) (hkl : t.ks.length ≤ 8796093022208) (hkz : ∀ x ∈ t.ks, x.size ≤ 140737488351232) (hsz : t.s.size ≤ 140737488351232) (hln : t.l.length ≤ 2199023255552) :
    ShowsT (lowm (w0.heap.size + 2) w) t [.int .u8 t.k, .int .u64 t.n, .string t.s, kv, lv] := by
  obtain ⟨A, c, rfl, hLT⟩ := listT_own (h.l.low (Nat.le_refl _)) (by have := h.len; omega) (by omega) (fun q hq => (h.done q hq (by have := h.len; omega) hq).sub (low_anti h.lo))
  obtain ⟨gk, _, hks⟩ := (h.ks.low (Nat.le_refl _)).shows
  have := ShowsT.make (k := t.k) (n := t.n) (s := t.s) hk hn hks hkl hkz hsz hLT
  cases t
  exact this
end

def CpSaid (t : Tree) (w : World) (e : Ending) (w' : World) : Prop := ∃ (kv lv : Value) (xs : List Cell5), e = .returned (.agg #[.int .u8 t.k, .int .u64 t.n, .string t.s, kv, lv]) ∧ ShowsT (lowm w.heap.size w') t [.int .u8 t.k, .int .u64 t.n, .string t.s, kv, lv] ∧
  OwnG valC 29 w' w.heap.size lv xs ∧ xs.length = t.l.length ∧ Below w.heap.size w w'

set_option maxRecDepth 100000 in
set_option maxHeartbeats 8000000 in
theorem copied_any (N : Nat) : ∀ (t : Tree) (vs : List Value) (w : World), cntT t = N → ShowsT w t vs → cntT t ≤ 1000 →
    Calls Try.prog 42 #[.agg vs.toArray] w (CpSaid t w) := by
  induction N using Nat.strongRecOn with
  | ind N ih =>
  intro t vs w hN h hc
  have IH := Lib.hid (fun j (hj : j < t.l.length) vs w' (hs : ShowsT w' (t.l[j]'hj) vs) => ih _ (by rw [← hN]; exact cnt_child t j hj) _ vs w' rfl hs (by have := cnt_child t j hj; omega))
  unfold CpSaid
  obtain ⟨kv, A, c, d0, d1, cs, rfl, hk, hn, hks, hkl, hkz, hsz, hln, hlc, hcm, _⟩ := h.open
  obtain ⟨A3, c3, rfl⟩ := str_form hks
  have hl1000 : t.l.length ≤ 1000 := by
    have h1 := cntT_eq t
    have h2 := cntL_len t.l
    omega
  obtain ⟨d2, xs0, hxl, hrow, hch0⟩ := showsG_list h.list
  have HSHOW := Lib.hid (fun wj lv xs kv B (hR : CpR w t kv lv B t.l.length xs wj) => hR.shows hk hn hkl hkz hsz hln)
  obtain ⟨W2, hW2⟩ : ∃ W2, W2 = (w.alloc (Obj.cells #[.int .u8 t.k, .int .u64 t.n, .string t.s, .slice A3 t.ks.length c3, .slice A t.l.length c] 29)).alloc (Obj.cells #[.int .u8 0, .int .u64 0, .string ⟨#[]⟩, .slice none 0 0, .slice none 0 0] 29) := ⟨_, rfl⟩
  have hb2 : Below w.heap.size w W2 := by rw [hW2]; exact (below_boxV _ _).alloc (by simp) _
  have hs2 : W2.heap.size = w.heap.size + 2 := by rw [hW2]; simp
  have hA2 : BoxV W2 w.heap.size (.int .u8 t.k) (.int .u64 t.n) (.string t.s) (.slice A3 t.ks.length c3) (.slice A t.l.length c) := by
    rw [hW2]; exact (BoxV.new w).kept ((Below.refl _ _).alloc (Nat.le_refl _) _) (Nat.le_refl _)
  have hZ2 : BoxV W2 (w.heap.size + 1) (.int .u8 0) (.int .u64 0) (.string ⟨#[]⟩) (.slice none 0 0) (.slice none 0 0) := by
    rw [hW2]
    have := BoxV.new (v0 := .int .u8 0) (v1 := .int .u64 0) (v2 := .string ⟨#[]⟩) (v3 := .slice none 0 0) (v4 := .slice none 0 0) (w.alloc (Obj.cells #[.int .u8 t.k, .int .u64 t.n, .string t.s, .slice A3 t.ks.length c3, .slice A t.l.length c] 29))
    rw [World.size_alloc] at this
    exact this
  have C1 := Lib.hid (clone_str A3 c3 t.ks.length d0 t.ks W2 rfl (hks.below' hb2 (Nat.le_refl _)) hkl)
  have HROW := Lib.hid (fun w' (hb : Below w.heap.size w w') => hrow.below' hb (Nat.le_refl _))
  have HB2 := Lib.hid hb2
  have HS2 := Lib.hid hs2
  have HA2 := Lib.hid hA2
  have HZ2 := Lib.hid hZ2
  have HCH0 := Lib.hid hch0
  have HXL := Lib.hid hxl
  have x3 := hA2.c3
  clear ih hN h hks hkz hc hb2 hs2 hA2 hZ2 hrow hch0 hxl
  go_enter Try.func42, Try.ntmps42
  go_upto_region 1 with fail
  rw [← hW2]
  have HW2 := Lib.hid hW2
  clear hW2
  go_wp2_with fail
  refine C1.out.mono ?_
  rintro e w3 ⟨kv, rfl, hko, hb3⟩
  obtain ⟨A5, c5, hkv, _, _⟩ := hko.form
  subst hkv
  have hA3 := HA2.out.kept hb3 (Nat.le_refl _)
  have hZ3 := HZ2.out.kept hb3 (Nat.le_refl _)
  have f3 := hA3.fr 3
  have y3 := hA3.c3
  have HA3 := Lib.hid (show BoxV (w3.setCell ⟨w.heap.size, 3, none⟩ (.slice A5 t.ks.length c5)) w.heap.size _ _ _ (.slice A5 t.ks.length c5) _ from heap_setCell_same w3 w.heap.size 3 _ 29 (.slice A5 t.ks.length c5) hA3)
  have HZ3 := Lib.hid (show BoxV (w3.setCell ⟨w.heap.size, 3, none⟩ (.slice A5 t.ks.length c5)) (w.heap.size + 1) _ _ _ _ _ from (heap_setCell_other _ _ _ _ (by show w.heap.size + 1 ≠ w.heap.size; omega)).trans hZ3)
  have HK3 : Hid (OwnG strC 9 (w3.setCell ⟨w.heap.size, 3, none⟩ (.slice A5 t.ks.length c5)) (w.heap.size + 2) (.slice A5 t.ks.length c5) t.ks) := Lib.hid ((hko.mono (by rw [HS2.out]; exact Nat.le_refl _)).keep fun g hg => heap_setCell_other _ _ _ _ (by show g ≠ w.heap.size; have := (hko.block g hg).1; have := HS2.out; omega))
  have HB3 := Lib.hid (below_set (j := 3) (HB2.out.trans (hb3.mono HB2.out.size)) (Nat.le_refl w.heap.size) (.slice A5 t.ks.length c5))
  have HSZ3 := Lib.hid (show w.heap.size + 2 ≤ (w3.setCell ⟨w.heap.size, 3, none⟩ (.slice A5 t.ks.length c5)).heap.size by have := hb3.size; have := HS2.out; simp; omega)
  clear hA3 hZ3 hko hb3 x3
  go_upto_region 2 with fail
  clear f3 y3
  generalize w3.setCell ⟨w.heap.size, 3, none⟩ (.slice A5 t.ks.length c5) = W3 at *
  have x4 := HA3.out.c4
  have C2 := Lib.hid (clone_val A c t.l.length d2 xs0 W3 HXL.out (HROW.out W3 HB3.out) hl1000)
  go_wp2_with fail
  refine C2.out.mono ?_
  rintro e w4 ⟨lv, rfl, hlo, hb4⟩
  have hA4 := HA3.out.kept hb4 (Nat.le_refl _)
  have hZ4 := HZ3.out.kept hb4 (Nat.le_refl _)
  have f4 := hA4.fr 4
  have y4 := hA4.c4
  have hR0 : CpR w t (.slice A5 t.ks.length c5) lv w4.heap.size 0 xs0 (w4.setCell ⟨w.heap.size, 4, none⟩ lv) := by
    have hset : ∀ k, k ≠ w.heap.size → (w4.setCell ⟨w.heap.size, 4, none⟩ lv).heap[k]? = w4.heap[k]? := fun k hk => heap_setCell_other _ _ _ _ hk
    have hk4 := HK3.out.below hb4 (Nat.le_refl _)
    have h0 := HSZ3.out
    have h4 := hb4.size
    refine ⟨heap_setCell_same w4 w.heap.size 4 _ 29 lv hA4, (hset _ (by omega)).trans hZ4, hk4.keep fun g hg => hset g (by have := (hk4.block g hg).1; omega), (hlo.mono h0).keep fun g hg => hset g (by have := (hlo.block g hg).1; omega), HXL.out, fun q _ _ hq => absurd hq (by omega), fun q h1 h2 _ => HCH0.out q h1 h2, below_set (HB3.out.trans (hb4.mono HB3.out.size)) (Nat.le_refl w.heap.size) lv, by simp, by omega, fun k hk => (hk4.block k hk).2, fun k hk => (hlo.block k hk).2⟩
  have hlx := HXL.out
  obtain ⟨A4, c4, hlv, _, _⟩ := hlo.form
  rw [hlx] at hlv
  subst hlv
  clear hA4 hZ4 hlo hb4 x4 hlx
  go_upto_region 3 with fail
  clear f4 y4
  generalize w4.heap.size = B at *
  have z4 := hR0.arg.c4
  generalize w4.setCell ⟨w.heap.size, 4, none⟩ (.slice A4 t.l.length c4) = W4 at *
  go_wp2_with fail
  go_loopw [16] (fun i wr => ∃ (j : Nat) (xs : List Cell5), j ≤ t.l.length ∧ i = .int .i64 j ∧ Hid (CpR w t (.slice A5 t.ks.length c5) (.slice A4 t.l.length c4) B j xs wr)) (fun i _ => t.l.length - (intOf i).toNat)
  case atStart => exact ⟨0, xs0, by omega, rfl, Lib.hid hR0⟩
  case round =>
    clear hR0 z4
    obtain ⟨j, xs, hj, rfl, HR⟩ := hrel
    rename World => wj
    by_cases hlt : j < t.l.length
    · have hjl : (j : Int) < (t.l.length : Int) := by omega
      have hjx : j < xs.length := by rw [HR.out.len]; exact hlt
      obtain ⟨b, hbA, hb2, hbl, hfr, hcl⟩ := HR.out.l.at_ (by omega)
      subst hbA
      have hch := HR.out.todo j hlt hjx (Nat.le_refl _)
      have e0 : wj.cell? ⟨b, j * 5, none⟩ = some (.int .u8 xs[j].k) := hcl j hjx 0 (by decide)
      have e1 : wj.cell? ⟨b, j * 5 + 1, none⟩ = some (.int .u64 xs[j].n) := hcl j hjx 1 (by decide)
      have e2 : wj.cell? ⟨b, j * 5 + 2, none⟩ = some (.string xs[j].s) := hcl j hjx 2 (by decide)
      have e3 : wj.cell? ⟨b, j * 5 + 3, none⟩ = some (.slice xs[j].a3 xs[j].n3 xs[j].c3) := hcl j hjx 3 (by decide)
      have e4 : wj.cell? ⟨b, j * 5 + 4, none⟩ = some (.slice xs[j].a4 xs[j].n4 xs[j].c4) := hcl j hjx 4 (by decide)
      have HROW5 := Lib.hid (fun w' (hR : CpR w t (.slice A5 t.ks.length c5) (.slice (some ⟨b, 0, none⟩) t.l.length c4) B j xs w') => by
        obtain ⟨b', e', _, _, hfr', hcl'⟩ := hR.l.at_ (show 0 < t.l.length by omega)
        cases e'
        exact And.intro hfr' (fun q (hq : q < 5) => hcl' j hjx q hq))
      have HC := Lib.hid (fun w' (hb : Below w.heap.size w w') => IH.out j hlt _ w' (hch.kept hb (Nat.le_refl _)))
      have hD : Hid (∀ (w' : World) (y : Cell5), CpR w t (.slice A5 t.ks.length c5) (.slice (some ⟨b, 0, none⟩) t.l.length c4) B j xs w' → ShowsT (lowm B w') (t.l[j]'hlt) y.vs → CpR w t (.slice A5 t.ks.length c5) (.slice (some ⟨b, 0, none⟩) t.l.length c4) B (j + 1) (xs.set j y) (((((w'.setCell ⟨b, j * 5, none⟩ (.int .u8 y.k)).setCell ⟨b, j * 5 + 1, none⟩ (.int .u64 y.n)).setCell ⟨b, j * 5 + 2, none⟩ (.string y.s)).setCell ⟨b, j * 5 + 3, none⟩ (.slice y.a3 y.n3 y.c3)).setCell ⟨b, j * 5 + 4, none⟩ (.slice y.a4 y.n4 y.c4))) := Lib.hid (fun w' y hR hy =>
        hR.put hlt hy (keep5 _ _ _ _ _ _ _ _) (by rw [size5]; exact Nat.le_refl _) (hR.l.store5 j hjx y) (belowset5 hR.bel (by omega) _ _ _ _ _))
      clear hcl hch
      generalize hxx : xs[j]'hjx = x at *
      have HXX := Lib.hid hxx
      obtain ⟨xk, xn, xst, xa3, xn3, xc3, xa4, xn4, xc4⟩ := x
      simp only [Cell5.vs] at e0 e1 e2 e3 e4 HC
      clear hxx
      go_upto_block 1 with fail
      go_cut [16] from 18 to 27 (fun s16 wx => s16 = .int .i64 j ∧ ∃ xs', Hid (CpR w t (.slice A5 t.ks.length c5) (.slice (some ⟨b, 0, none⟩) t.l.length c4) B (j + 1) xs' wx))
      case first =>
        have hR5 := HR.out.step (below_boxV wj (Obj.cells #[.int .u8 xk, .int .u64 xn, .string xst, .slice xa3 xn3 xc3, .slice xa4 xn4 xc4] 29))
        have hX5 := BoxV.new (v0 := .int .u8 xk) (v1 := .int .u64 xn) (v2 := .string xst) (v3 := .slice xa3 xn3 xc3) (v4 := .slice xa4 xn4 xc4) wj
        clear IH C1 C2 HROW HB2 HS2 HA2 HZ2 HCH0 HW2 HA3 HZ3 HK3 HB3 HSZ3 HSHOW
        go_upto_region 6 with fail
        obtain ⟨W5, hW5⟩ : ∃ W5, W5 = wj.alloc (Obj.cells #[.int .u8 xk, .int .u64 xn, .string xst, .slice xa3 xn3 xc3, .slice xa4 xn4 xc4] 29) := ⟨_, rfl⟩
        rw [← hW5] at hR5 hX5
        rw [← hW5]
        have HW5 := Lib.hid hW5
        clear hW5 e0 e1 e2 e3 e4
        have hR5d := hR5.drew
        have z0 : W5.drew.cell? ⟨wj.heap.size, 0, none⟩ = _ := hX5.c0
        have z1 : W5.drew.cell? ⟨wj.heap.size, 1, none⟩ = _ := hX5.c1
        have z2 : W5.drew.cell? ⟨wj.heap.size, 2, none⟩ = _ := hX5.c2
        have z3 : W5.drew.cell? ⟨wj.heap.size, 3, none⟩ = _ := hX5.c3
        have z4 : W5.drew.cell? ⟨wj.heap.size, 4, none⟩ = _ := hX5.c4
        have a4 : W5.drew.cell? ⟨w.heap.size, 4, none⟩ = _ := hR5.arg.c4
        have HC5 := Lib.hid (HC.out W5.drew hR5d.bel)
        have HR5 := Lib.hid hR5d
        have HBB := Lib.hid (show B ≤ W5.drew.heap.size from hR5d.hB)
        clear hR5 hR5d hX5
        go_region_law (first
          | (go_simp; go_at_call 42
             with_reducible refine (HC5.out).mono ?_
             rintro e w7 ⟨kv7, lv7, xs7, rfl, hsh7, ho7, hxl7, hb7⟩
             obtain ⟨k7, m7, s7, p3, q3, r3, p4, q4, r4, hv7⟩ := hsh7.cells5
             simp only [List.cons.injEq, and_true] at hv7
             obtain ⟨hv0, hv1, hv2, hv3, hv4⟩ := hv7
             subst hv3
             subst hv4
             have hR7 := HR5.out.step hb7
             have y4 := hR7.arg.c4
             obtain ⟨fr7, cl7⟩ := HROW5.out w7 hR7
             have q0 : w7.cell? ⟨b, j * 5, none⟩ = some (.int .u8 xk) := cl7 0 (by decide)
             have q1 : w7.cell? ⟨b, j * 5 + 1, none⟩ = some (.int .u64 xn) := cl7 1 (by decide)
             have q2 : w7.cell? ⟨b, j * 5 + 2, none⟩ = some (.string xst) := cl7 2 (by decide)
             have q3' : w7.cell? ⟨b, j * 5 + 3, none⟩ = some (.slice xa3 xn3 xc3) := cl7 3 (by decide)
             have q4' : w7.cell? ⟨b, j * 5 + 4, none⟩ = some (.slice xa4 xn4 xc4) := cl7 4 (by decide)
             clear cl7))
        all_goals
          have HDD := Lib.hid (hD.out w7 ⟨k7, m7, s7, p3, q3, r3, p4, q4, r4⟩ hR7 (by
            show ShowsT (lowm B w7) _ [.int .u8 k7, .int .u64 m7, .string s7, .slice p3 q3 r3, .slice p4 q4 r4]
            rw [← hv0, ← hv1, ← hv2]
            exact hsh7.sub (low_anti HBB.out)))
          clear q0 q1 q2 q3' q4' fr7
          go_wp2_with fail
          go_meet
          exact ⟨rfl, _, HDD⟩
      case rest =>
        obtain ⟨rfl, xs', HR'⟩ := hcut
        clear e0 e1 e2 e3 e4
        go_wp2_with fail
        go_roundw
        case rel => exact ⟨j + 1, xs', by omega, by go_num, HR'⟩
        case measure => simp [intOf]; omega
    · have hjl : ¬ (j : Int) < (t.l.length : Int) := by omega
      obtain rfl : j = t.l.length := by omega
      have hS := HSHOW.out wj _ xs _ B HR.out
      have hb2 := HR.out.bel
      have a0 := HR.out.arg.c0
      have a1 := HR.out.arg.c1
      have a2 := HR.out.arg.c2
      have a3 := HR.out.arg.c3
      have a4 := HR.out.arg.c4
      have z0 := HR.out.z.c0
      have z1 := HR.out.z.c1
      have z2 := HR.out.z.c2
      have z3 := HR.out.z.c3
      have z4 := HR.out.z.c4
      have fz := HR.out.z.fr
      have R5 := Lib.hid (HR.out.z.set5 (.int .u8 t.k) (.int .u64 t.n) (.string t.s) (.slice A5 t.ks.length c5) (.slice A4 t.l.length c4))
      have HS := Lib.hid hS
      have HBE := Lib.hid hb2
      clear hS hb2
      go_wp2_with fail
      refine bodyPost_ret (results_cell_row rfl _ _ (w.heap.size + 1) 29 _ (0, 0) _ rfl R5.out Try.underlying29 rfl (by kernel_rfl)) rfl ⟨.slice A5 t.ks.length c5, .slice A4 t.l.length c4, rfl, ?_, xs, ?_, HR.out.len, ?_⟩
      · exact (HS.out.sub (((((low_set (by show w.heap.size + 1 < w.heap.size + 2; omega) _ _).trans (low_set (by show w.heap.size + 1 < w.heap.size + 2; omega) _ _)).trans (low_set (by show w.heap.size + 1 < w.heap.size + 2; omega) _ _)).trans (low_set (by show w.heap.size + 1 < w.heap.size + 2; omega) _ _)).trans (low_set (by show w.heap.size + 1 < w.heap.size + 2; omega) _ _))).sub (low_anti (by omega))
      · refine (HR.out.l.mono (by omega)).keep fun g hg => ?_
        have hg2 := (HR.out.l.block g hg).1
        exact keep5 wj (w.heap.size + 1) 0 _ _ _ _ _ g (by omega)
      · exact below_set5 HBE.out (by omega) _ _ _ _ _

end Go.Proofs.Ytlcggpobelbfcaa
