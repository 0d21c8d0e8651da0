/-
  The document's Copy of methods.
  Conditions: at most eight arguments, each of at most 400 values.
-/
import Derived.Test.YtpbdnfonflmncaaGreatMeSmZ
import Derived.Test.YtpbdnfonflmncaaGreatMeUBZ
import Derived.Test.YtpbdnfonflmncaaGreatMeMZ
import Derived.Test.YtpbdnfonflmncaaGreatValXZ
namespace Go.Proofs.YtpbdnfonflmncaaGreat
open Go.RowKit
set_option linter.unusedVariables false
set_option linter.unusedSimpArgs false

abbrev zMeth : Obj := Obj.cells #[.int .u8 0, .int .u8 0, .bool false, .slice none 0 0] 24
/-- The worlds of the loop. -/
structure CpM (w : World) (cl co : Nat) (sy : Bool) (pv v : Value) (cs : List CellA) (l : List ArgP) (wx : World) : Prop where
  a : BoxM wx w.heap.size cl co sy pv
  r : wx.heap[w.heap.size + 1]? = some zMeth
  o : BoxM wx (w.heap.size + 2) cl co sy v
  own : OwnG cellAC 52 wx (w.heap.size + 3) v cs
  row : RowA (pm (Free (w.heap.size + 3) v (.slice none 0 0)) wx) cs l
  bel : Below w.heap.size w wx
theorem CpM.lt {w wx : World} {cl co : Nat} {sy : Bool} {pv v : Value} {cs : List CellA} {l : List ArgP} (h : CpM w cl co sy pv v cs l wx) : w.heap.size + 3 ≤ wx.heap.size := h.o.lt
theorem CpM.step {w wx wy : World} {cl co : Nat} {sy : Bool} {pv v : Value} {cs : List CellA} {l : List ArgP} (h : CpM w cl co sy pv v cs l wx) (hb : Below wx.heap.size wx wy) : CpM w cl co sy pv v cs l wy :=
  ⟨h.a.kept hb (Nat.le_refl _), (hb.block _ (Array.getElem?_eq_some_iff.1 h.r).1).trans h.r, h.o.kept hb (Nat.le_refl _), h.own.keep (fun g hg => hb.block g (h.own.block g hg).2), h.row.sub (pm_pm hb.size fun k hk hkw => ⟨hk, hb.block k hkw⟩), h.bel.trans (hb.mono h.bel.size)⟩
/-- Stores into a block that is the round's own. -/
theorem CpM.far {w wx wy wz : World} {cl co : Nat} {sy : Bool} {pv v : Value} {cs : List CellA} {l : List ArgP} (h : CpM w cl co sy pv v cs l wx) (hs : wx.heap.size ≤ wz.heap.size) (hb : ∀ k, k < wx.heap.size → wz.heap[k]? = wx.heap[k]?) (ho : wz.os = wx.os) (ht : wz.tape = wx.tape) (hu : wz.output = wx.output) : CpM w cl co sy pv v cs l wz :=
  h.step ⟨ho, ht, hu, hs, hb⟩

theorem CpM.push {w wx : World} {cl co : Nat} {sy : Bool} {pv v : Value} {cs : List CellA} {l : List ArgP} (h : CpM w cl co sy pv v cs l wx) {y : CellA} {o : Obj} {v8 : Value} {w8 : World} {B : Nat} (hB : w.heap.size + 3 ≤ B) (hvB : ∀ k, v.ownBlock = some k → k < B) (hy : FitC (lowm B wx) y)
    (ho : OwnG cellAC 52 w8 (w.heap.size + 3) v8 (cs ++ [y])) (hg : (wx.alloc o).grownBy w8 v.ownBlock) (hwh : v8.ownBlock = v.ownBlock ∨ v8.ownBlock = some (wx.alloc o).heap.size) :
    CpM w cl co sy pv v8 (cs ++ [y]) (l ++ [y.a]) (w8.setCell ⟨w.heap.size + 2, 3, none⟩ v8) := by
  have hlt := h.lt
  have hbA : Below wx.heap.size wx (wx.alloc o) := (Below.refl _ _).alloc (Nat.le_refl _) _
  have hlo : ∀ k, v.ownBlock = some k → w.heap.size + 3 ≤ k ∧ k < wx.heap.size := h.own.block
  have hs8 : wx.heap.size ≤ w8.heap.size := by have := hg.size; simp at this; omega
  have hkeep : ∀ k, k < wx.heap.size → v.ownBlock ≠ some k → w8.heap[k]? = wx.heap[k]? := fun k hk hne => (hg.block k (by simp; omega) (fun e => hne e.symm)).trans (hbA.block k hk)
  have hset : ∀ k, k ≠ w.heap.size + 2 → (w8.setCell ⟨w.heap.size + 2, 3, none⟩ v8).heap[k]? = w8.heap[k]? := fun k hk => Below.heap_setCell _ _ _ _ (by show k ≠ _; exact hk)
  have hss : (w8.setCell ⟨w.heap.size + 2, 3, none⟩ v8).heap.size = w8.heap.size := by simp
  have hlow : ∀ k, k < w.heap.size + 3 → v.ownBlock ≠ some k := fun k hk e => by have := (hlo _ e).1; omega
  have hSub : Sub (pm (Free (w.heap.size + 3) v (.slice none 0 0)) wx) (pm (Free (w.heap.size + 3) v8 (.slice none 0 0)) w8) := free_left hbA hg hwh
  have hSet : Sub (pm (Free (w.heap.size + 3) v8 (.slice none 0 0)) w8) (pm (Free (w.heap.size + 3) v8 (.slice none 0 0)) (w8.setCell ⟨w.heap.size + 2, 3, none⟩ v8)) :=
    pm_pm (by rw [hss]; exact Nat.le_refl _) fun k hk _ => ⟨hk, hset k (by have := hk.1; omega)⟩
  refine ⟨?_, ?_, ?_, ?_, ?_, ?_⟩
  · exact ((hset _ (by omega)).trans (hkeep _ (by omega) (hlow _ (by omega)))).trans h.a
  · exact ((hset _ (by omega)).trans (hkeep _ (by omega) (hlow _ (by omega)))).trans h.r
  · have h8 : w8.heap[w.heap.size + 2]? = _ := (hkeep _ (by omega) (hlow _ (by omega))).trans h.o
    exact heap_setCell_same w8 (w.heap.size + 2) 3 _ 24 v8 h8
  · exact ho.keep fun k hk => hset k (by have := (ho.block k hk).1; omega)
  · refine RowA.snoc ((h.row.sub hSub).sub hSet) ?_
    obtain ⟨h1, dq, h2⟩ := hy
    exact ⟨h1, dq, (h2.sub (low_pm (B := B) (Q := Free (w.heap.size + 3) v (.slice none 0 0)) (Nat.le_refl _) (fun k hk _ => ⟨⟨by omega, fun e => by have := hvB k e; omega, by simp [Value.ownBlock]⟩, rfl⟩))).sub (hSub.trans hSet)⟩
  · exact below_set ((h.bel.alloc h.bel.size o).grown hg (by have := h.bel.size; simp; omega) (fun k hk => by have := (hlo k hk).1; omega)) (by omega) _

def MCopySaid (cl co : Nat) (sy : Bool) (l : List ArgP) (w : World) (e : Ending) (w' : World) : Prop :=
  ∃ A c, e = .returned (.agg #[.int .u8 cl, .int .u8 co, .bool sy, .slice A l.length c]) ∧ ListA w' l A c ∧ Below w.heap.size w w'

set_option maxRecDepth 100000 in
set_option maxHeartbeats 16000000 in
theorem mcopy_any (cl co : Nat) (sy : Bool) (l : List ArgP) (A : Option Addr) (c : Nat) (w : World) (h : ListA w l A c) (h8 : l.length ≤ 8) (hc : ∀ a ∈ l, cntT a.v ≤ 400) :
    Calls Tryz.prog 7 #[.agg #[.int .u8 cl, .int .u8 co, .bool sy, .slice A l.length c]] w (MCopySaid cl co sy l w) := by
  have HL := Lib.hid (fun w' (hb : Below w.heap.size w w') => h.kept hb (Nat.le_refl _))
  have HC := Lib.hid hc
  have hB1 := below_box w (Obj.cells #[.int .u8 cl, .int .u8 co, .bool sy, .slice A l.length c] 24)
  have hB2 := below_box (w.alloc (Obj.cells #[.int .u8 cl, .int .u8 co, .bool sy, .slice A l.length c] 24)) zMeth
  have hX := (BoxM.new w cl co sy (.slice A l.length c)).kept hB2 (Nat.le_refl _)
  have hR := heap_alloc_new (w.alloc (Obj.cells #[.int .u8 cl, .int .u8 co, .bool sy, .slice A l.length c] 24)) zMeth
  rw [World.size_alloc] at hR
  have hB12 := hB1.trans (hB2.mono hB1.size)
  have hB3 := below_box ((w.alloc (Obj.cells #[.int .u8 cl, .int .u8 co, .bool sy, .slice A l.length c] 24)).alloc zMeth) (Obj.cells #[.int .u8 cl, .int .u8 co, .bool sy, .slice none 0 0] 24)
  have hO := BoxM.new ((w.alloc (Obj.cells #[.int .u8 cl, .int .u8 co, .bool sy, .slice A l.length c] 24)).alloc zMeth) cl co sy (.slice none 0 0)
  rw [World.size_alloc, World.size_alloc] at hO
  have HCP : Hid (CpM w cl co sy (.slice A l.length c) (.slice none 0 0) [] [] _) := Lib.hid ⟨hX.kept hB3 (Nat.le_refl _), (hB3.block _ (by simp)).trans hR, hO, OwnG.nil_ _ _ _ _, RowA.nil _, hB12.trans (hB3.mono hB12.size)⟩
  have x0 := hX.c0
  have x1 := hX.c1
  have x2 := hX.c2
  clear hB1 hB2 hX hR hB12 hB3 hO h hc
  unfold MCopySaid
  go_enter Tryz.func7, Tryz.ntmps7
  go_wp2_with fail
  clear x0 x1 x2
  go_loopw [4, 5] (fun i a5 wr => ∃ (j : Nat) (v : Value) (cs : List CellA), j ≤ l.length ∧ i = .int .i64 j ∧ CpM w cl co sy (.slice A l.length c) v cs (l.take j) wr) (fun i _ _ => l.length - (intOf i).toNat)
  case atStart => exact ⟨0, _, [], by omega, rfl, HCP.out⟩
  case round =>
    obtain ⟨j, v, cs, hj, rfl, hCP⟩ := hrel
    rename World => wj
    have p3 := hCP.a.c3
    obtain ⟨A6, c6, ev, _⟩ := hCP.own.form
    generalize hn6 : cs.length = n6 at ev
    subst ev
    have hcj : cs.length = j := by have := hCP.row.len; rw [List.length_take] at this; omega
    by_cases hlt : j < l.length
    · have hjl : (j : Int) < (l.length : Int) := by omega
      obtain ⟨d, o, B, e, dq, v0, v1, v2, v3, v4, rfl, hd, hsh, ⟨e0, e1, e2⟩, ⟨e3, e4, e5⟩, e6, e7, e8, e9, e10, e11⟩ := (HL.out wj hCP.bel).at_ j hlt
      have HSZ := Lib.hid hsh.sz
      have HQ := Lib.hid (fun w' (hb : Below wj.heap.size wj w') => qcopy_any B e l[j].q.length dq l[j].q w' rfl (hsh.kept hb (Nat.le_refl _)).q (by have := hsh.sz.q; omega))
      have HV := Lib.hid (fun w' (hb : Below wj.heap.size wj w') => (show Calls Tryz.prog 17 #[.agg [v0, v1, v2, v3, v4].toArray] w' (CopySaid l[j].v w') from copy_any _ l[j].v [v0, v1, v2, v3, v4] w' rfl (hsh.kept hb (Nat.le_refl _)).v (by have := HC.out _ (List.getElem_mem hlt); omega)))
      unfold CopySaid at HV
      have HTK := Lib.hid (List.take_succ_eq_append_getElem hlt)
      obtain ⟨xk, xn, xs, xa, xb, xc, xd, xe, xf, hxx⟩ := hsh.v.cells5
      simp only [List.cons.injEq, and_true] at hxx
      obtain ⟨rfl, rfl, rfl, rfl, rfl⟩ := hxx
      have HCJ := Lib.hid hCP
      have hX := BoxG.new wj l[j] (.slice B l[j].q.length e) (.int .u8 xk) (.int .u64 xn) (.string xs) (.slice xa xb xc) (.slice xd xe xf)
      clear hsh hCP
      generalize l[j] = aj at *
      obtain ⟨ai, an, az, af, ag, ah, aq, av⟩ := aj
      simp only [] at *
      have hA := below_box wj (Obj.cells #[.bool ai, .int .u64 an, .string az, .int .u32 af, .string ag, .string ah, .slice B aq.length e, .int .u8 xk, .int .u64 xn, .string xs, .slice xa xb xc, .slice xd xe xf] 52)
      have HX := Lib.hid hX
      have HA := Lib.hid hA
      have HQ1 := Lib.hid (HQ.out _ hA)
      have y6 := hX.cells.2.2.1
      clear hX hA
      go_wp2_with fail
      refine HQ1.out.mono ?_
      rintro eq w2 ⟨vq, rfl, hoq, hb2⟩
      obtain ⟨Aq, cq, rfl, hq1, hq2⟩ := hoq.form
      have hX2 := HX.out.kept hb2 (Nat.le_refl _)
      have hf6 := hX2.fr 6
      have z6 := hX2.cells.2.2.1
      have HX3 := Lib.hid (show BoxG (w2.setCell ⟨wj.heap.size, 6, none⟩ (.slice Aq aq.length cq)) wj.heap.size ⟨ai, an, az, af, ag, ah, aq, av⟩ (.slice Aq aq.length cq) (.int .u8 xk) (.int .u64 xn) (.string xs) (.slice xa xb xc) (.slice xd xe xf) from heap_setCell_same _ wj.heap.size 6 _ 52 (.slice Aq aq.length cq) hX2)
      have hB13 := HA.out.trans (hb2.mono HA.out.size)
      have HB3 := Lib.hid (below_set hB13 (Nat.le_refl wj.heap.size) (j := 6) (.slice Aq aq.length cq))
      have HOQ := Lib.hid (hoq.keep (w' := w2.setCell ⟨wj.heap.size, 6, none⟩ (.slice Aq aq.length cq)) (fun g hg => Below.heap_setCell _ _ _ _ (by show g ≠ wj.heap.size; have := (hoq.block g hg).1; simp at this; omega)))
      have HV3 := Lib.hid (HV.out _ HB3.out)
      obtain ⟨_, _, _, y7, y8, y9, y10, y11⟩ := HX3.out.cells
      clear hoq hX2 hB13 hb2 e0 e1 e2 e3 e4 e5 e6 e7 e8 e9 e10 e11 y6
      go_wp2_with fail
      refine HV3.out.mono ?_
      rintro e w4 ⟨vs4, rfl, hsh4, hb4⟩
      obtain ⟨k4, n4, s4, p4, r4, t4, q4, b4, d4, rfl⟩ := hsh4.cells5
      have hX4 := HX3.out.kept hb4 (Nat.le_refl _)
      obtain ⟨_, _, _, z7, z8, z9, z10, z11⟩ := hX4.cells
      have hfz := hX4.fr
      have HX5 := Lib.hid (hX4.setV (.int .u8 k4) (.int .u64 n4) (.string s4) (.slice p4 r4 t4) (.slice q4 b4 d4) av)
      have hsz0 : wj.heap.size + 1 = (wj.alloc (Obj.cells #[.bool ai, .int .u64 an, .string az, .int .u32 af, .string ag, .string ah, .slice B aq.length e, .int .u8 xk, .int .u64 xn, .string xs, .slice xa xb xc, .slice xd xe xf] 52)).heap.size := by simp
      have hlo : wj.heap.size < wj.heap.size + 1 := Nat.lt_succ_self _
      have HB5 := Lib.hid (below_set (below_set (below_set (below_set (below_set (HB3.out.trans (hb4.mono HB3.out.size)) (Nat.le_refl wj.heap.size) (j := 7) (.int .u8 k4)) (Nat.le_refl wj.heap.size) (j := 8) (.int .u64 n4)) (Nat.le_refl wj.heap.size) (j := 9) (.string s4)) (Nat.le_refl wj.heap.size) (j := 10) (.slice p4 r4 t4)) (Nat.le_refl wj.heap.size) (j := 11) (.slice q4 b4 d4))
      have hsub : ∀ (W : World), Sub (lowm (wj.heap.size + 1) W) (lowm (wj.heap.size + 1) (((((W.setCell ⟨wj.heap.size, 7, none⟩ (.int .u8 k4)).setCell ⟨wj.heap.size, 8, none⟩ (.int .u64 n4)).setCell ⟨wj.heap.size, 9, none⟩ (.string s4)).setCell ⟨wj.heap.size, 10, none⟩ (.slice p4 r4 t4)).setCell ⟨wj.heap.size, 11, none⟩ (.slice q4 b4 d4))) := fun W =>
        ((((low_set hlo 7 _).trans (low_set hlo 8 _)).trans (low_set hlo 9 _)).trans (low_set hlo 10 _)).trans (low_set hlo 11 _)
      have hsV := (hsh4.sub (low_anti (by have := HB3.out.size; have := HX3.out.lt; omega : wj.heap.size + 1 ≤ _))).sub (hsub w4)
      have hoq4 := HOQ.out.keep (fun g hg => hb4.block g (HOQ.out.block g hg).2)
      obtain ⟨gq, _, hsQ0⟩ := (hoq4.low (B := wj.heap.size + 1) (by rw [hsz0]; exact Nat.le_refl _)).shows
      have hsQ := hsQ0.sub (hsub w4)
      have HSA := Lib.hid (show ShowsA (lowm (wj.heap.size + 1) _) ⟨ai, an, az, af, ag, ah, aq, av⟩ Aq cq gq (.int .u8 k4) (.int .u64 n4) (.string s4) (.slice p4 r4 t4) (.slice q4 b4 d4) from ⟨HSZ.out, hsQ, hsV⟩)
      clear hX4 hsz0 hsV hoq4 hsQ0 hsQ hsub hsh4 hb4 y7 y8 y9 y10 y11 HX3 HB3 HOQ HV3 HX HA HQ1 z6 hf6
      go_upto_region 8 with fail
      clear z7 z8 z9 z10 z11 hfz
      have hX5 := HX5.out
      have hC5 := HCJ.out.step HB5.out
      generalize ((((w4.setCell ⟨wj.heap.size, 7, none⟩ (.int .u8 k4)).setCell ⟨wj.heap.size, 8, none⟩ (.int .u64 n4)).setCell ⟨wj.heap.size, 9, none⟩ (.string s4)).setCell ⟨wj.heap.size, 10, none⟩ (.slice p4 r4 t4)).setCell ⟨wj.heap.size, 11, none⟩ (.slice q4 b4 d4) = W5 at *
      obtain ⟨⟨x0, x1, x2⟩, ⟨x3, x4, x5⟩, x6, x7, x8, x9, x10, x11⟩ := hX5.cells
      have o3 : W5.cell? ⟨w.heap.size + 1 + 1, 3, none⟩ = _ := hC5.o.c3
      have hlt5 := hC5.lt
      have HVB := Lib.hid (HCJ.out.own.block)
      have hlj := HCJ.out.lt
      have HC5 := Lib.hid hC5
      have hown := hC5.own
      clear hX5 hC5 HX5 HCJ
      go_wp2_with (at_builtin
                   refine wpList_appendW cellAC _ rfl (.tmp 34) (.tmp 36) 22 rfl (w.heap.size + 3) 52 (.agg #[.bool false, .int .u64 0, .string ⟨#[]⟩, .int .u32 0, .string ⟨#[]⟩, .string ⟨#[]⟩, .slice none 0 0, .int .u8 0, .int .u64 0, .string ⟨#[]⟩, .slice none 0 0, .slice none 0 0]) 176 Tryz.underlying22 infoArg rfl (.slice A6 n6 c6) cs rfl (hown.alloc_ _) W5.heap.size (.slice (some ⟨W5.heap.size, 0, none⟩) 1 1) [⟨⟨ai, an, az, af, ag, ah, aq, av⟩, Aq, aq.length, cq, ⟨k4, n4, s4, p4, r4, t4, q4, b4, d4⟩⟩] rfl (ShowsG.lit (C := cellAC) [⟨⟨ai, an, az, af, ag, ah, aq, av⟩, Aq, aq.length, cq, ⟨k4, n4, s4, p4, r4, t4, q4, b4, d4⟩⟩] (by simp [Code.all, cellAC, CellA.vs]) (by simp [maxLen])) (by simp) (by simp; omega) (by simp; omega) (by simp; omega) ?_
                   intro v8 w8 ho8 hg8 hwh8
                   obtain ⟨A8, c8, e8, _⟩ := ho8.form
                   generalize hn8 : (cs ++ ([⟨⟨ai, an, az, af, ag, ah, aq, av⟩, Aq, aq.length, cq, ⟨k4, n4, s4, p4, r4, t4, q4, b4, d4⟩⟩] : List CellA)).length = n8 at e8
                   subst e8
                   have hP8 : CpM w cl co sy (.slice (some ⟨d, o, none⟩) l.length c) (.slice A8 n8 c8) (cs ++ [⟨⟨ai, an, az, af, ag, ah, aq, av⟩, Aq, aq.length, cq, ⟨k4, n4, s4, p4, r4, t4, q4, b4, d4⟩⟩]) (l.take j ++ [⟨ai, an, az, af, ag, ah, aq, av⟩]) (w8.setCell ⟨w.heap.size + 1 + 1, 3, none⟩ (.slice A8 n8 c8)) := HC5.out.push (B := wj.heap.size + 1) (by omega) (fun k hk => by have := (HVB.out k hk).2; omega) ⟨rfl, gq, HSA.out⟩ ho8 hg8 hwh8
                   have hO8 : BoxM w8 (w.heap.size + 2) cl co sy (.slice A6 n6 c6) := (hg8.block _ (by simp; omega) (fun e => by have := (HVB.out _ e.symm).1; omega)).trans ((below_box W5 _).block _ (by omega) |>.trans HC5.out.o)
                   have u3 : w8.cell? ⟨w.heap.size + 1 + 1, 3, none⟩ = _ := hO8.c3
                   have f8 : w8.frozen? ⟨w.heap.size + 1 + 1, 3, none⟩ = false := frozen_of_row w8 (w.heap.size + 2) 3 _ 24 hO8
                   clear x0 x1 x2 x3 x4 x5 x6 x7 x8 x9 x10 x11 o3)
      go_roundw
      case rel => exact ⟨j + 1, _, cs ++ [⟨⟨ai, an, az, af, ag, ah, aq, av⟩, Aq, aq.length, cq, ⟨k4, n4, s4, p4, r4, t4, q4, b4, d4⟩⟩], by omega, by go_num, by rw [HTK.out]; exact hP8⟩
      case measure => simp [intOf]; omega
    · have hjl : ¬ (j : Int) < (l.length : Int) := by omega
      have HJ := Lib.hid (show l.take j = l from List.take_of_length_le (by omega))
      have hrow := hCP.row
      rw [HJ.out] at hrow
      obtain ⟨A7, c7, e7, hLA⟩ := listA_of hCP.own hrow (by omega)
      rw [e7] at hCP
      clear hrow e7
      have o0 : wj.cell? ⟨w.heap.size + 1 + 1, 0, none⟩ = _ := hCP.o.c0
      have o1 : wj.cell? ⟨w.heap.size + 1 + 1, 1, none⟩ = _ := hCP.o.c1
      have o2 : wj.cell? ⟨w.heap.size + 1 + 1, 2, none⟩ = _ := hCP.o.c2
      have o3 : wj.cell? ⟨w.heap.size + 1 + 1, 3, none⟩ = _ := hCP.o.c3
      have HR := Lib.hid hCP.r
      have z0 : wj.cell? ⟨w.heap.size + 1, 0, none⟩ = some (.int .u8 0) := by rw [cell_of_row wj _ 0 _ 24 (0, 0) HR.out]; rfl
      have z1 : wj.cell? ⟨w.heap.size + 1, 1, none⟩ = some (.int .u8 0) := by rw [cell_of_row wj _ 1 _ 24 (0, 0) HR.out]; rfl
      have z2 : wj.cell? ⟨w.heap.size + 1, 2, none⟩ = some (.bool false) := by rw [cell_of_row wj _ 2 _ 24 (0, 0) HR.out]; rfl
      have z3 : wj.cell? ⟨w.heap.size + 1, 3, none⟩ = some (.slice none 0 0) := by rw [cell_of_row wj _ 3 _ 24 (0, 0) HR.out]; rfl
      have fz := fun i => frozen_of_row wj (w.heap.size + 1) i _ 24 HR.out
      have r1 := heap_setCell_same wj (w.heap.size + 1) 0 _ 24 (.int .u8 cl) HR.out
      have r2 := heap_setCell_same _ (w.heap.size + 1) 1 _ 24 (.int .u8 co) r1
      have r3 := heap_setCell_same _ (w.heap.size + 1) 2 _ 24 (.bool sy) r2
      have r4 := heap_setCell_same _ (w.heap.size + 1) 3 _ 24 (.slice A7 l.length c7) r3
      have R4 := Lib.hid r4
      have hlt1 : w.heap.size + 1 < w.heap.size + 3 := by omega
      have HLF := Lib.hid (hLA.sub ((((low_set hlt1 0 (.int .u8 cl)).trans (low_set hlt1 1 (.int .u8 co))).trans (low_set hlt1 2 (.bool sy))).trans (low_set hlt1 3 (.slice A7 l.length c7))))
      have HBF := Lib.hid (below_set (below_set (below_set (below_set hCP.bel (by omega : w.heap.size ≤ w.heap.size + 1) (j := 0) (.int .u8 cl)) (by omega : w.heap.size ≤ w.heap.size + 1) (j := 1) (.int .u8 co)) (by omega : w.heap.size ≤ w.heap.size + 1) (j := 2) (.bool sy)) (by omega : w.heap.size ≤ w.heap.size + 1) (j := 3) (.slice A7 l.length c7))
      clear hCP r1 r2 r3 r4 hLA HJ
      go_wp2_with fail
      refine bodyPost_ret (results_cell_row rfl _ _ (w.heap.size + 1) 24 _ (0, 0) _ rfl R4.out Tryz.underlying24 rfl (by kernel_rfl)) rfl ?_
      exact ⟨A7, c7, rfl, HLF.out.sub (low_out _ _), HBF.out⟩

end Go.Proofs.YtpbdnfonflmncaaGreat
