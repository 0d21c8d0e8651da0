/-
  The contract of the document's Copy of entries.
  Conditions: none but sizes.
-/
import Derived.Test.YtpmafabphlejeaaGreatEnIZ
import Derived.Test.YtpmafabphlejeaaGreatEnUZ
import Derived.Test.YtpmafabphlejeaaGreatPrKZ
namespace Go.Proofs.YtpmafabphlejeaaGreat
open Go.RowKit
set_option linter.unusedVariables false
set_option linter.unusedSimpArgs false
set_option maxRecDepth 100000

/-- What CopyPuts tells. -/
def CopyPOwn (cs : List PutC) (w : World) (e : Ending) (w' : World) : Prop := ∃ A n ds, e = .returned (.slice A ds.length n) ∧ esOf ds = esOf cs ∧ PRow w.heap.size (.slice A ds.length n) ds w' ∧ Below w.heap.size w w'
def CopyPSaid (cs : List PutC) (w : World) (e : Ending) (w' : World) : Prop := ∃ A n ds, e = .returned (.slice A ds.length n) ∧ esOf ds = esOf cs ∧ RowP (lowm w.heap.size w') A n ds ∧ Below w.heap.size w w'
theorem PRow.push0 {base : Nat} {v v' : Value} {cs : List PutC} {w w4 w5 w6 : World} {c : PutC} (h : PRow base v cs w) (hB : base ≤ w.heap.size) (hb4 : Below w.heap.size w w4) (hc : PutAt (lowm w.heap.size w4) c) (hb5 : Below w4.heap.size w4 w5) (ho : OwnG putC 35 w6 base v' (cs ++ [c]))
    (hg6 : w5.grownBy w6 v.ownBlock) (hv : v'.ownBlock = v.ownBlock ∨ v'.ownBlock = some w5.heap.size) : PRow base v' (cs ++ [c]) w6 := by
  have h4 := h.step hb4
  have hs1 := hb4.size
  have hs2 := hb5.size
  refine ⟨ho, fun j hj => ?_⟩
  by_cases hjc : j < cs.length
  · rw [List.getElem_append_left hjc]
    refine (h4.sh j hjc).sub (pm_pm (Nat.le_trans hb5.size hg6.size) fun k hk hkw => ⟨⟨hk.1, ?_, hk.2.2⟩, ?_⟩)
    · rcases hv with e | e
      · rw [e]; exact hk.2.1
      · rw [e]; intro e2; have := Option.some.inj e2; omega
    · exact (hg6.block k (by omega) (fun e => hk.2.1 e.symm)).trans (hb5.block k hkw)
  · have hj0 : j = cs.length := by rw [List.length_append, List.length_singleton] at hj; omega
    subst hj0
    rw [List.getElem_append_right (Nat.le_refl _)]
    simp only [Nat.sub_self, List.getElem_cons_zero]
    refine hc.sub (low_pm (Nat.le_trans hb5.size hg6.size) fun k hk hkw => ⟨⟨by omega, ?_, by simp [Value.ownBlock]⟩, ?_⟩)
    · rcases hv with e | e
      · rw [e]; intro e2; have := (h.own.block k e2).2; omega
      · rw [e]; intro e2; have := Option.some.inj e2; omega
    · exact (hg6.block k (by omega) (fun e => by have := (h.own.block k e.symm).2; omega)).trans (hb5.block k hkw)

/-- The stores of nine cells behind two. -/
def set92 (w : World) (b : Nat) (x0 x1 x2 x3 x4 x5 x6 x7 x8 : Value) : World := ((((((((w.setCell ⟨b, 2, none⟩ x0).setCell ⟨b, 3, none⟩ x1).setCell ⟨b, 4, none⟩ x2).setCell ⟨b, 5, none⟩ x3).setCell ⟨b, 6, none⟩ x4).setCell ⟨b, 7, none⟩ x5).setCell ⟨b, 8, none⟩ x6).setCell ⟨b, 9, none⟩ x7).setCell ⟨b, 10, none⟩ x8
theorem set92_eq (w : World) (b : Nat) (x0 x1 x2 x3 x4 x5 x6 x7 x8 : Value) : set92 w b x0 x1 x2 x3 x4 x5 x6 x7 x8 = setN w b 2 [x0, x1, x2, x3, x4, x5, x6, x7, x8] := rfl
theorem set92_fin {w : World} {b B : Nat} {c : PutC} (y : Cell5) (h : BoxT w b c) (hs : ShowsT (lowm B w) c.e.p.app y.vs) (hb : b < B) (hq : c.e.q.size ≤ 140737488351232) (hid : c.e.id < 18446744073709551616) (hk : c.e.p.key.size ≤ 140737488351232 ∧ c.e.p.id.size ≤ 140737488351232) (hbd : c.e.body.size ≤ 140737488351232) :
    BoxT (set92 w b (.string c.e.p.key) (.bool c.e.p.dur) (.bool c.e.p.red) (.string c.e.p.id) (.int .u8 y.k) (.int .u64 y.n) (.string y.s) (.slice y.a3 y.n3 y.c3) (.slice y.a4 y.n4 y.c4)) b ⟨c.e, y⟩ ∧
      PutAt (lowm B (set92 w b (.string c.e.p.key) (.bool c.e.p.dur) (.bool c.e.p.red) (.string c.e.p.id) (.int .u8 y.k) (.int .u64 y.n) (.string y.s) (.slice y.a3 y.n3 y.c3) (.slice y.a4 y.n4 y.c4))) ⟨c.e, y⟩ ∧
      ∀ w0 : World, Below b w0 w → Below b w0 (set92 w b (.string c.e.p.key) (.bool c.e.p.dur) (.bool c.e.p.red) (.string c.e.p.id) (.int .u8 y.k) (.int .u64 y.n) (.string y.s) (.slice y.a3 y.n3 y.c3) (.slice y.a4 y.n4 y.c4)) := by
  rw [set92_eq]
  refine ⟨?_, ⟨hq, hid, ⟨hk.1, hk.2, hs.sub (setN_sub hb _ 2 w)⟩, hbd⟩, fun w0 h0 => setN_below (Nat.le_refl b) _ 2 _ _ h0⟩
  have h9 := setN_row [.string c.e.p.key, .bool c.e.p.dur, .bool c.e.p.red, .string c.e.p.id, .int .u8 y.k, .int .u64 y.n, .string y.s, .slice y.a3 y.n3 y.c3, .slice y.a4 y.n4 y.c4] 2 w _ h
  simp only [List.foldl_cons, List.foldl_nil, List.setIfInBounds_toArray, List.set_cons_zero, List.set_cons_succ, Nat.reduceAdd] at h9
  exact h9

set_option maxHeartbeats 8000000 in
theorem copyPutsO_any (A : Option Addr) (n0 : Nat) (cs : List PutC) (w : World) (h : RowP w A n0 cs) (hl : cs.length ≤ 110) (hf : FewS cs) :
    Calls Tryz.prog 34 #[.slice A cs.length n0] w (CopyPOwn cs w) := by
  have hlm := h.lm
  have HC := Lib.hid (fun j (hj : j < cs.length) w' (hb : Below w.heap.size w w') => pcopy_any cs[j].e.p _ _ _ _ _ w' ((h.each j hj).pr.kept hb (Nat.le_refl _)) (Nat.le_trans (hf j hj) (by decide)))
  unfold PCopySaid propV at HC
  unfold CopyPOwn
  have HZ := Lib.hid (fun j (hj : j < cs.length) => And.intro (h.each j hj).q (And.intro (h.each j hj).id (And.intro (And.intro (h.each j hj).pr.key (h.each j hj).pr.id) (h.each j hj).body)))
  go_enter Tryz.func34, Tryz.ntmps34
  go_wp2_with fail
  go_loopw [3, 4] (fun lv iv wr => ∃ (j : Nat) (ds : List PutC), j ≤ cs.length ∧ iv = .int .i64 j ∧ PRow w.heap.size lv ds wr ∧ esOf ds = (esOf cs).take j ∧ Below w.heap.size w wr) (fun _ i _ => cs.length - (intOf i).toNat)
  case atStart => exact ⟨0, [], by omega, rfl, PRow.nil _ _, by simp [esOf], Below.refl _ _⟩
  case round =>
    rename World => x
    obtain ⟨j, ds, hj, rfl, hP, hes, hb⟩ := hrel
    obtain ⟨Al, cl, hlv, hlc⟩ := hP.own.form
    subst hlv
    have hdl : ds.length = j := by rw [← esOf_len, hes, List.length_take, esOf_len]; omega
    by_cases hlt : j < cs.length
    · obtain ⟨d, o, rfl, hd, ⟨e0, e1, e2, e3, e4, e5⟩, e6, e7, e8, e9, e10, e11⟩ := (h.kept hb (Nat.le_refl _)).at_ j hlt
      have hj1 : (j : Int) < (cs.length : Int) := by omega
      have hbs := hb.size
      have hB1 := below_boxV x (Obj.cells #[.string cs[j].e.q, .int .u64 cs[j].e.id, .string cs[j].e.p.key, .bool cs[j].e.p.dur, .bool cs[j].e.p.red, .string cs[j].e.p.id, .int .u8 cs[j].x.k, .int .u64 cs[j].x.n, .string cs[j].x.s, .slice cs[j].x.a3 cs[j].x.n3 cs[j].x.c3, .slice cs[j].x.a4 cs[j].x.n4 cs[j].x.c4, .string cs[j].e.body] 35)
      have hX1 := BoxT.new (c := cs[j]) x
      have hb1 := hb.trans (hB1.mono hbs)
      have hcc := HC.out j hlt _ hb1
      have HCC := Lib.hid hcc
      obtain ⟨⟨g0, g1, g2, g3, g4, g5⟩, g6, g7, g8, g9, g10, g11⟩ := hX1.cells
      have HX1 := Lib.hid hX1
      have HB1 := Lib.hid hB1
      have HP := Lib.hid hP
      have HES := Lib.hid hes
      have HDL := Lib.hid hdl
      have hz1 : (x.alloc (Obj.cells #[.string cs[j].e.q, .int .u64 cs[j].e.id, .string cs[j].e.p.key, .bool cs[j].e.p.dur, .bool cs[j].e.p.red, .string cs[j].e.p.id, .int .u8 cs[j].x.k, .int .u64 cs[j].x.n, .string cs[j].x.s, .slice cs[j].x.a3 cs[j].x.n3 cs[j].x.c3, .slice cs[j].x.a4 cs[j].x.n4 cs[j].x.c4, .string cs[j].e.body] 35)).heap.size = x.heap.size + 1 := by simp
      have HZ1 := Lib.hid hz1
      clear hcc hX1 hB1 hP hes hdl hlc hz1
      go_wp2_with fail
      refine HCC.out.mono ?_
      rintro e w3 ⟨k, n, ss, a3, n3, c3, a4, n4, c4, rfl, hsh3, hb3⟩
      have hX3 := HX1.out.kept hb3 (Nat.le_refl _)
      have hz3 := hb3.size
      rw [HZ1.out] at hsh3 hz3
      obtain ⟨hX4, hP4, hB4⟩ := set92_fin (c := cs[j]) ⟨k, n, ss, a3, n3, c3, a4, n4, c4⟩ hX3 hsh3 (Nat.lt_succ_self x.heap.size) (HZ.out j hlt).1 (HZ.out j hlt).2.1 (HZ.out j hlt).2.2.1 (HZ.out j hlt).2.2.2
      have hbx3 : Below x.heap.size x w3 := HB1.out.trans (hb3.mono (by rw [HZ1.out]; omega))
      have hbx4 := hB4 x hbx3
      obtain ⟨⟨m0, m1, m2, m3, m4, m5⟩, m6, m7, m8, m9, m10, m11⟩ := hX3.cells
      have fz := hX3.fr
      have f2 := fz 2
      have f3 := fz 3
      have f4 := fz 4
      have f5 := fz 5
      have f6 := fz 6
      have f7 := fz 7
      have f8 := fz 8
      have f9 := fz 9
      have f10 := fz 10
      obtain ⟨W4, hW4⟩ : ∃ W4, W4 = set92 w3 x.heap.size (.string cs[j].e.p.key) (.bool cs[j].e.p.dur) (.bool cs[j].e.p.red) (.string cs[j].e.p.id) (.int .u8 k) (.int .u64 n) (.string ss) (.slice a3 n3 c3) (.slice a4 n4 c4) := ⟨_, rfl⟩
      simp only [] at hX4 hP4 hbx4
      rw [← hW4] at hX4 hP4 hbx4
      have HX4 := Lib.hid (And.intro hX4 (And.intro hP4 hbx4))
      unfold set92 at hW4
      have HW4 := Lib.hid hW4.symm
      clear fz hX4 hP4 hB4 hbx4 hbx3 hX3 hsh3 hb3 hW4 g0 g1 g2 g3 g4 g5 g6 g7 g8 g9 g10 g11 e0 e1 e2 e3 e4 e5 e6 e7 e8 e9 e10 e11 hz3
      go_upto_region 7 with fail
      rw [HW4.out]
      obtain ⟨hX4, hP4, hbx4⟩ := HX4.out
      obtain ⟨⟨r0, r1, r2, r3, r4, r5⟩, r6, r7, r8, r9, r10, r11⟩ := hX4.cells
      simp only [] at r0 r1 r2 r3 r4 r5 r6 r7 r8 r9 r10 r11
      have hb5 := below_boxV W4 (Obj.cells #[.string cs[j].e.q, .int .u64 cs[j].e.id, .string cs[j].e.p.key, .bool cs[j].e.p.dur, .bool cs[j].e.p.red, .string cs[j].e.p.id, .int .u8 k, .int .u64 n, .string ss, .slice a3 n3 c3, .slice a4 n4 c4, .string cs[j].e.body] 35)
      have hm : ShowsG putC (W4.alloc (Obj.cells #[.string cs[j].e.q, .int .u64 cs[j].e.id, .string cs[j].e.p.key, .bool cs[j].e.p.dur, .bool cs[j].e.p.red, .string cs[j].e.p.id, .int .u8 k, .int .u64 n, .string ss, .slice a3 n3 c3, .slice a4 n4 c4, .string cs[j].e.body] 35)) W4.heap.size (.slice (some ⟨W4.heap.size, 0, none⟩) 1 1) [⟨cs[j].e, ⟨k, n, ss, a3, n3, c3, a4, n4, c4⟩⟩] := ShowsG.lit (C := putC) [⟨cs[j].e, ⟨k, n, ss, a3, n3, c3, a4, n4, c4⟩⟩] (by simp [Code.all, putC, PutC.vs]) (by simp [maxLen])
      have ho5 := ((HP.out.step hbx4).step hb5).own
      have hz4 := hbx4.size
      have hz5 := hb5.size
      have HR := Lib.hid (And.intro hP4 (And.intro hbx4 hb5))
      clear m0 m1 m2 m3 m4 m5 m6 m7 m8 m9 m10 m11 f2 f3 f4 f5 f6 f7 f8 f9 f10 hX4 hP4 hbx4 hb5 HW4
      go_wp2_with (at_builtin
                   refine wpList_appendW putC _ rfl (.tmp 20) (.tmp 22) 22 rfl w.heap.size 35 _ 160 Tryz.underlying22 infoPut rfl _ _ rfl ho5 _ _ _ rfl hm (by simp) (by have := HDL.out; simp only [List.length_singleton]; omega) (by have := HDL.out; simp only [List.length_singleton]; omega) (by omega) ?_
                   intro v6 w6 ho6 hg6 hv6)
      obtain ⟨hP4, hbx4, hb5⟩ := HR.out
      have hP6 := HP.out.push0 hbs hbx4 (hP4.sub (low_anti (Nat.le_succ x.heap.size))) hb5 ho6 hg6 hv6
      have hbw6 : Below w.heap.size w w6 := ((hb.trans (hbx4.mono hbs)).trans (hb5.mono (by omega))).grown hg6 (by omega) (fun i hi => (ho5.block i hi).1)
      go_roundw
      case rel => exact ⟨j + 1, _, by omega, by go_num, hP6, by rw [esOf_snoc, HES.out, List.take_succ_eq_append_getElem (by rw [esOf_len]; exact hlt), esOf_get], hbw6⟩
      case measure => simp [intOf]; omega
    · have hjl : ¬ (j : Int) < (cs.length : Int) := by omega
      have HFIN := Lib.hid (And.intro hP (show esOf ds = esOf cs by rw [hes, List.take_of_length_le (by rw [esOf_len]; omega)]))
      clear hP hes hlc hdl
      go_wp2_with fail
      go_ret
      exact ⟨_, _, ds, rfl, HFIN.out.2, HFIN.out.1, hb⟩
theorem copyPuts_any (A : Option Addr) (n0 : Nat) (cs : List PutC) (w : World) (h : RowP w A n0 cs) (hl : cs.length ≤ 110) (hf : FewS cs) :
    Calls Tryz.prog 34 #[.slice A cs.length n0] w (CopyPSaid cs w) := by
  refine (copyPutsO_any A n0 cs w h hl hf).mono ?_
  rintro e w' ⟨A', n', ds, rfl, he, hP, hb⟩
  have hdl : ds.length = cs.length := by rw [← esOf_len, he, esOf_len]
  obtain ⟨A2, n2, hv, hrow⟩ := hP.row (by omega)
  injection hv with h1 h2 h3
  subst h1 h3
  exact ⟨_, _, ds, rfl, he, hrow, hb⟩

end Go.Proofs.YtpmafabphlejeaaGreat
