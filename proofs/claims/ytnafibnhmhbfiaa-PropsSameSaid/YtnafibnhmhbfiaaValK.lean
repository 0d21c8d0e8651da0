/-
  The contract of value.Get.
  Conditions: at most 2^47 bytes.
-/
import Derived.Test.YtnafibnhmhbfiaaValJ
import Derived.Deep.RegionHeld3
namespace Go.Proofs.Ytnafibnhmhbfiaa
open Go.RowKit
set_option linter.unusedVariables false
set_option linter.unusedSimpArgs false

/-- What Get tells. -/
noncomputable def getP (l : List UInt8) : Option (Tree × Nat) :=
  match valP 200 200 (some (l.take 872200)) with
  | none => none
  | some (t, _, s) => if checkT t = 0 then some (t, (l.take 872200).length - lenS s) else none
def GetSaid (l : List UInt8) (w : World) (r : Option (Tree × Nat)) (e : Ending) (w' : World) : Prop :=
  Below w.heap.size w w' ∧ match r with
    | none => e = .returned (.tuple #[.agg #[.int .u8 0, .int .u64 0, .string ⟨#[]⟩, .slice none 0 0, .slice none 0 0], .int .i64 0, .int .i64 5])
    | some (t, n) => ∃ vs, e = .returned (.tuple #[.agg vs.toArray, .int .i64 n, .int .i64 0]) ∧ ShowsT (lowm w.heap.size w') t vs

theorem Shows.head2 {w : World} {d k n c : Nat} {A : Option Addr} {l : List UInt8} (h : Shows w d (.slice A n c) l) (hk : k ≤ l.length) : Shows w d (.slice A k c) (l.take k) := by
  obtain ⟨A', c', e, h2, h3, h4⟩ := h
  simp only [Value.slice.injEq] at e
  obtain ⟨rfl, rfl, rfl⟩ := e
  refine ⟨A, c, by rw [List.length_take, Nat.min_eq_left hk], by rw [List.length_take]; omega, h3, fun hp => ?_⟩
  rw [List.length_take] at hp
  obtain ⟨o, rfl, hd, hc⟩ := h4 (by omega)
  refine ⟨o, rfl, hd, fun j hj => ?_⟩
  rw [List.length_take] at hj
  rw [List.getElem_take]
  exact hc j (by omega)

theorem Res3.kept {w w' : World} {r n er : Nat} {v0 v1 v2 v3 v4 x y : Value} (h : Res3 w r n er v0 v1 v2 v3 v4 x y) (hb : Below w.heap.size w w') : Res3 w' r n er v0 v1 v2 v3 v4 x y :=
  ⟨h.r.kept hb (Nat.le_refl _), (hb.block n (Array.getElem?_eq_some_iff.1 h.n).1).trans h.n, (hb.block er (Array.getElem?_eq_some_iff.1 h.e).1).trans h.e⟩
theorem Res3.frm {w w' : World} {b g r n er : Nat} {v0 v1 v2 v3 v4 x y : Value} (h : Res3 w r n er v0 v1 v2 v3 v4 x y) (hf : Frm2 b g w w') (hb : r < b ∧ n < b ∧ er < b) (hg : r < g ∧ n < g ∧ er < g) : Res3 w' r n er v0 v1 v2 v3 v4 x y :=
  ⟨(hf.block r h.r.lt (by omega) (by omega)).trans h.r, (hf.block n (Array.getElem?_eq_some_iff.1 h.n).1 (by omega) (by omega)).trans h.n, (hf.block er (Array.getElem?_eq_some_iff.1 h.e).1 (by omega) (by omega)).trans h.e⟩
theorem below_frm {B : Nat} {w0 w w' : World} {b g : Nat} (h : Below B w0 w) (hf : Frm2 b g w w') (hb : B ≤ b) (hg : B ≤ g) (hs : B ≤ w.heap.size) : Below B w0 w' :=
  h.trans ⟨hf.os, hf.tape, hf.output, hf.size, fun k hk => hf.block k (by omega) (by omega) (by omega)⟩

theorem results_get (tmps : Array Value) (w : World) (r n er : Nat) {v0 v1 v2 v3 v4 x y : Value} (h : Res3 w r n er v0 v1 v2 v3 v4 x y) (h0 : tmps.getD 2 undef = .pointer (some ⟨r, 0, none⟩)) (h1 : tmps.getD 3 undef = .pointer (some ⟨n, 0, none⟩)) (h2 : tmps.getD 4 undef = .pointer (some ⟨er, 0, none⟩)) :
    (results Try.f20 tmps).run Try.prog w = .ok (.tuple #[.agg #[v0, v1, v2, v3, v4], x, y]) w := by
  have h0' : tmps[2]?.getD undef = .pointer (some ⟨r, 0, none⟩) := by simpa using h0
  have h1' : tmps[3]?.getD undef = .pointer (some ⟨n, 0, none⟩) := by simpa using h1
  have h2' : tmps[4]?.getD undef = .pointer (some ⟨er, 0, none⟩) := by simpa using h2
  have c1 : w.cell? ⟨n, 0, none⟩ = some x := by rw [cell_of_row w n 0 _ 3 (0, 0) h.n]; rfl
  have c2 : w.cell? ⟨er, 0, none⟩ = some y := by rw [cell_of_row w er 0 _ 33 (0, 0) h.e]; rfl
  have e0 := run_loadVar_row (P := Try.prog) w r 27 27 #[v0, v1, v2, v3, v4] (0, 0) _ h.r Try.underlying27 rfl (by kernel_rfl)
  have e1 : (loadVar 3 ⟨n, 0, none⟩).run Try.prog w = .ok x w := by
    have hagg : (isAgg 3).run Try.prog w = .ok false w := by kernel_rfl
    simp [loadVar, hagg, c1, go_sem]
  have e2 : (loadVar 33 ⟨er, 0, none⟩).run Try.prog w = .ok y w := by
    have hagg : (isAgg 33).run Try.prog w = .ok false w := by kernel_rfl
    simp [loadVar, hagg, c2, go_sem]
  simp [results, Try.results20, h0', h1', h2', asAddr, e0, e1, e2]

set_option maxRecDepth 100000 in
set_option maxHeartbeats 4000000 in
theorem get_any (v : Value) (d0 : Nat) (l : List UInt8) (w : World) (hv : Shows w d0 v l) (hl : l.length ≤ 140737488351232) :
    Calls Try.prog 20 #[v] w (GetSaid l w (getP l)) := by
  obtain ⟨A, c, rfl, hlc, hcm, _⟩ := id hv
  obtain ⟨R, hR⟩ : ∃ R, R = getP l := ⟨_, rfl⟩
  rw [← hR]
  have HR := Lib.hid hR
  obtain ⟨k, hk⟩ : ∃ k, k = (l.take 872200).length := ⟨_, rfl⟩
  have hkmin : (if (l.length : Int) ≤ 872200 then (l.length : Int) else 872200) = (k : Int) := by rw [hk, List.length_take]; split <;> omega
  have hkl : k ≤ l.length := by rw [hk, List.length_take]; omega
  have hkb : k ≤ 872200 := by rw [hk, List.length_take]; omega
  have hhd := hv.head2 hkl
  have htk : l.take k = l.take 872200 := by rw [hk, List.length_take]; apply List.take_eq_take_iff.2; omega
  rw [htk] at hhd
  have hmf : ∀ (fn : Fn) (first cap : Array Value) (w : World), (Instr.makeFunc fn first cap).run Try.prog w = .ok (.func fn first cap) w := fun _ _ _ _ => rfl
  obtain ⟨W0, hW0⟩ : ∃ W0, W0 = ((w.alloc (Obj.cells #[.int .u8 0, .int .u64 0, .string ⟨#[]⟩, .slice none 0 0, .slice none 0 0] 27)).alloc (Obj.cells #[.int .i64 0] 3)).alloc (Obj.cells #[.int .i64 0] 33) := ⟨_, rfl⟩
  have hbA : Below w.heap.size w (w.alloc (Obj.cells #[.int .u8 0, .int .u64 0, .string ⟨#[]⟩, .slice none 0 0, .slice none 0 0] 27)) := below_boxV _ _
  have hsA : (w.alloc (Obj.cells #[.int .u8 0, .int .u64 0, .string ⟨#[]⟩, .slice none 0 0, .slice none 0 0] 27)).heap.size = w.heap.size + 1 := by simp
  have hbW : Below w.heap.size w W0 := by rw [hW0]; exact (hbA.alloc (by simp) _).alloc (by simp; omega) _
  have hsW : W0.heap.size = w.heap.size + 3 := by rw [hW0]; simp
  have h3 : Res3 W0 w.heap.size (w.heap.size + 1) (w.heap.size + 1 + 1) (.int .u8 0) (.int .u64 0) (.string ⟨#[]⟩) (.slice none 0 0) (.slice none 0 0) (.int .i64 0) (.int .i64 0) := by
    rw [hW0]
    refine ⟨?_, ?_, ?_⟩
    · exact ((BoxV.new w).kept ((Below.refl _ _).alloc (Nat.le_refl _) _) (Nat.le_refl _)).kept ((Below.refl _ _).alloc (Nat.le_refl _) _) (Nat.le_refl _)
    · rw [Below.heap_alloc _ _ _ (by simp)]
      have := heap_alloc_new (w.alloc (Obj.cells #[.int .u8 0, .int .u64 0, .string ⟨#[]⟩, .slice none 0 0, .slice none 0 0] 27)) (Obj.cells #[.int .i64 0] 3)
      rw [hsA] at this
      exact this
    · have := heap_alloc_new ((w.alloc (Obj.cells #[.int .u8 0, .int .u64 0, .string ⟨#[]⟩, .slice none 0 0, .slice none 0 0] 27)).alloc (Obj.cells #[.int .i64 0] 3)) (Obj.cells #[.int .i64 0] 33)
      rw [show ((w.alloc (Obj.cells #[.int .u8 0, .int .u64 0, .string ⟨#[]⟩, .slice none 0 0, .slice none 0 0] 27)).alloc (Obj.cells #[.int .i64 0] 3)).heap.size = w.heap.size + 1 + 1 by simp] at this
      exact this
  have hhd0 : Shows W0 d0 (.slice A k c) (l.take 872200) := hhd.keep hbW.size (fun hp => hbW.block d0 (hhd.lt hp))
  have hfl : (l.take 872200).length = k := hk.symm
  have HOP := Lib.hid (open_any (.slice A k c) (l.take 872200) d0 W0 hhd0 (by omega))
  have H3 := Lib.hid h3
  have HBW := Lib.hid hbW
  have HR2 : Hid (R = match valP 200 200 (some (l.take 872200)) with | none => none | some (t, _, s) => if checkT t = 0 then some (t, k - lenS s) else none) := Lib.hid (by rw [hR]; unfold getP; rw [hfl])
  have HHK := Lib.hid hk
  clear hR hk htk hhd hhd0 hbA hsA hbW h3 hv
  go_enter_defers Try.func20, Try.ntmps20
  go_upto_region 2 with fail
  rw [← hW0]
  have HW0 := Lib.hid hW0
  clear hW0
  go_cut [5] from 8 to 12 (fun s5 wx => s5 = .slice A k c ∧ wx = W0)
  case first =>
    by_cases hle : (l.length : Int) ≤ 872200
    · rw [if_pos hle] at hkmin
      have hle2 : ¬ (872200 : Int) < (l.length : Int) := by omega
      go_wp2_with fail
      go_meet
      exact ⟨rfl, rfl⟩
    · rw [if_neg hle] at hkmin
      have hle2 : (872200 : Int) < (l.length : Int) := by omega
      have hle3 : (872200 : Int) ≤ (c : Int) := by omega
      go_wp2_with fail
      go_meet
      exact ⟨rfl, rfl⟩
  case rest =>
    obtain ⟨rfl, hwc⟩ := hcut
    subst hwc
    rename World => W0
    go_wp2_with fail
    refine HOP.out.mono ?_
    rintro e w1 ⟨g, d', rfl, hRS, hgw, ⟨hd1, hd2⟩, hb1⟩
    obtain ⟨W2, hW2⟩ : ∃ W2, W2 = w1.alloc (Obj.cells #[.pointer (some ⟨g, 0, none⟩), .int .i64 200] 84) := ⟨_, rfl⟩
    have hb12 : Below w1.heap.size w1 W2 := by rw [hW2]; exact (Below.refl _ _).alloc (Nat.le_refl _) _
    have hglt := hRS.lt
    have hs1 := hb1.size
    have hVR : VR W2 w1.heap.size g d' 200 (some (l.take 872200)) := by
      refine ⟨by rw [hW2]; exact heap_alloc_new _ _, hRS.keep hb12.size (hb12.block g hglt) (fun hd => hb12.block d' hd), by omega, by omega, hd2⟩
    have hb02 : Below W0.heap.size W0 W2 := hb1.trans (hb12.mono hs1)
    have h32 := H3.out.kept hb02
    have hcall := rvalue_any 200 w1.heap.size g d' 200 (some (l.take 872200)) W2 (by omega) (by omega) (by simp only [lenS]; omega) hVR
    have HCALL := Lib.hid hcall
    have H32 := Lib.hid h32
    have HB02 := Lib.hid hb02
    have hsW2 : W2.heap.size = w1.heap.size + 1 := by rw [hW2]; simp
    clear hcall h32 hb02 hb1 hb12 hRS hVR
    cases hval : valP 200 200 (some (l.take 872200)) with
    | none =>
      rw [hval] at HCALL HR2
      have hRn : R = none := HR2.out
      subst hRn
      go_wp2_with fail
      rw [← hW2]
      refine HCALL.out.mono ?_
      rintro e w3 ⟨hF3, rfl⟩
      have h33 := H32.out.frm hF3 (by omega) (by omega)
      have hB3 := below_frm (HBW.out.trans (HB02.out.mono HBW.out.size)) hF3 (by omega) (by omega) (by omega)
      refine leaves_cons (f := 47) (args := #[.pointer (some ⟨w.heap.size, 0, none⟩), .pointer (some ⟨w.heap.size + 1, 0, none⟩), .pointer (some ⟨w.heap.size + 1 + 1, 0, none⟩)]) (by simp) (by simp [go_sem]) ?_
      refine (catch_panicking w.heap.size (w.heap.size + 1) (w.heap.size + 1 + 1) _ _ _ _ _ _ _ w3 (.inr trivial) h33 (by omega) (by omega) (by omega)).mono ?_
      rintro e u' w4 ⟨rfl, rfl, h34, hB4⟩
      exact ⟨_, results_get _ w4 _ _ _ h34 rfl rfl rfl, hB3.trans (hB4 w.heap.size (Nat.le_refl _) (by omega) (by omega)), rfl⟩
    | some p =>
      obtain ⟨t, m', s'⟩ := p
      rw [hval] at HCALL HR2
      go_wp2_with fail
      rw [← hW2]
      refine HCALL.out.mono ?_
      rintro e w3 ⟨hF3, vs, rfl, hSH, hVR3⟩
      obtain ⟨k5, n5, s5, a3, n3, c3, a4, n4, c4, rfl⟩ := hSH.cells5
      have h33 := H32.out.frm hF3 (by omega) (by omega)
      have hB3 := below_frm (HBW.out.trans (HB02.out.mono HBW.out.size)) hF3 (by omega) (by omega) (by omega)
      have c0 := h33.r.c0
      have c1 := h33.r.c1
      have c2 := h33.r.c2
      have c3' := h33.r.c3
      have c4' := h33.r.c4
      have fz : ∀ i, w3.frozen? ⟨w.heap.size, i, none⟩ = false := fun i => frozen_of_row w3 w.heap.size i _ 27 h33.r
      obtain ⟨W4, hW4⟩ : ∃ W4, W4 = ((((w3.setCell ⟨w.heap.size, 0, none⟩ (.int .u8 k5)).setCell ⟨w.heap.size, 1, none⟩ (.int .u64 n5)).setCell ⟨w.heap.size, 2, none⟩ (.string s5)).setCell ⟨w.heap.size, 3, none⟩ (.slice a3 n3 c3)).setCell ⟨w.heap.size, 4, none⟩ (.slice a4 n4 c4) := ⟨_, rfl⟩
      have hR4 : BoxV W4 w.heap.size (.int .u8 k5) (.int .u64 n5) (.string s5) (.slice a3 n3 c3) (.slice a4 n4 c4) := by
        have r1 := heap_setCell_same _ w.heap.size 0 _ 27 (.int .u8 k5) h33.r
        have r2 := heap_setCell_same _ w.heap.size 1 _ 27 (.int .u64 n5) r1
        have r3 := heap_setCell_same _ w.heap.size 2 _ 27 (.string s5) r2
        have r4 := heap_setCell_same _ w.heap.size 3 _ 27 (.slice a3 n3 c3) r3
        have r5 := heap_setCell_same _ w.heap.size 4 _ 27 (.slice a4 n4 c4) r4
        rw [hW4]
        exact r5
      have hoth : ∀ q, q ≠ w.heap.size → W4.heap[q]? = w3.heap[q]? := fun q hq => by
        rw [hW4]
        exact (Below.heap_setCell _ _ _ _ hq).trans ((Below.heap_setCell _ _ _ _ hq).trans ((Below.heap_setCell _ _ _ _ hq).trans ((Below.heap_setCell _ _ _ _ hq).trans (Below.heap_setCell _ _ _ _ hq))))
      have hs34 : W4.heap.size = w3.heap.size := by rw [hW4]; simp
      have h34 : Res3 W4 w.heap.size (w.heap.size + 1) (w.heap.size + 1 + 1) (.int .u8 k5) (.int .u64 n5) (.string s5) (.slice a3 n3 c3) (.slice a4 n4 c4) (.int .i64 0) (.int .i64 0) := ⟨hR4, (hoth _ (by omega)).trans h33.n, (hoth _ (by omega)).trans h33.e⟩
      have hB4 : Below w.heap.size w W4 := by
        rw [hW4]
        exact below_set (below_set (below_set (below_set (below_set hB3 (Nat.le_refl _) _) (Nat.le_refl _) _) (Nat.le_refl _) _) (Nat.le_refl _) _) (Nat.le_refl _) _
      have hSH4 : ShowsT (lowm (w.heap.size + 3) W4) t [.int .u8 k5, .int .u64 n5, .string s5, .slice a3 n3 c3, .slice a4 n4 c4] := (hSH.sub (low_anti (B := w.heap.size + 3) (by omega))).sub (low_sub (by omega) fun q hq _ => hoth q (by omega))
      have hVR4 : VR W4 w1.heap.size g d' m' s' := ⟨(hoth _ (by omega)).trans hVR3.box, hVR3.rs.keep (by omega) (hoth _ (by omega)) (fun _ => hoth _ (by omega)), hVR3.bg, hVR3.bd, hVR3.dg⟩
      have hck := Lib.hid (check_any t _ W4 (hSH4.sub (low_out _ _)))
      have HH34 := Lib.hid h34
      have HB4 := Lib.hid hB4
      have HSH4 := Lib.hid hSH4
      have HVR4 := Lib.hid hVR4
      have hsz3 := hF3.size
      clear hoth hB3 hSH hVR3 hF3 h33 hSH4 hVR4 h34 hB4
      go_upto_region 5 with fail
      rw [← hW4]
      clear hW4 c0 c1 c2 c3' c4' fz
      have c0 := hR4.c0
      have c1 := hR4.c1
      have c2 := hR4.c2
      have c3' := hR4.c3
      have c4' := hR4.c4
      clear hR4
      go_wp2_with fail
      refine hck.out.mono ?_
      rintro e w5 ⟨rfl, hb5⟩
      have h35 := HH34.out.kept hb5
      have hB5 := HB4.out.trans (hb5.mono HB4.out.size)
      by_cases hc0 : checkT t = 0
      · have hcI : ((checkT t : Int) == 0) = true := by rw [hc0]; rfl
        obtain ⟨_, hlx, hsn⟩ := valP_leaves 200 _ _ _ _ _ hval
        obtain ⟨lx, rfl⟩ := Option.ne_none_iff_exists'.1 hsn
        have hRs : R = some (t, k - lx.length) := by rw [HR2.out]; simp [hc0, lenS]
        have hlk : lx.length ≤ k := by simp only [lenS] at hlx; omega
        have hVR5 := HVR4.out.keep hb5
        have hSH5 : ShowsT (lowm (w.heap.size + 3) w5) t [.int .u8 k5, .int .u64 n5, .string s5, .slice a3 n3 c3, .slice a4 n4 c4] := HSH4.out.sub (low_sub hb5.size fun q _ hq => hb5.block q hq)
        have HLF := Lib.hid (fun w (h : RS w g d' (some lx)) => left_some g d' lx w h)
        have HSH5 := Lib.hid hSH5
        have HB5 := Lib.hid hB5
        have H35 := Lib.hid h35
        have HVR5 := Lib.hid hVR5
        have d0' := h35.r.c0
        have d1 := h35.r.c1
        have d2 := h35.r.c2
        have d3 := h35.r.c3
        have d4 := h35.r.c4
        have dn : w5.cell? ⟨w.heap.size + 1, 0, none⟩ = some (.int .i64 0) := by rw [cell_of_row w5 _ 0 _ 3 (0, 0) h35.n]; rfl
        have de : w5.cell? ⟨w.heap.size + 1 + 1, 0, none⟩ = some (.int .i64 0) := by rw [cell_of_row w5 _ 0 _ 33 (0, 0) h35.e]; rfl
        have fr : ∀ i, w5.frozen? ⟨w.heap.size, i, none⟩ = false := fun i => frozen_of_row w5 w.heap.size i _ 27 h35.r
        have fn : ∀ i, w5.frozen? ⟨w.heap.size + 1, i, none⟩ = false := fun i => frozen_of_row w5 _ i _ 3 h35.n
        have fe : ∀ i, w5.frozen? ⟨w.heap.size + 1 + 1, i, none⟩ = false := fun i => frozen_of_row w5 _ i _ 33 h35.e
        have db := hVR5.c0
        have hrs5 := hVR5.rs
        have HRS := Lib.hid hRs
        clear hSH5 hB5 h35 hVR5 hcI hRs c0 c1 c2 c3' c4'
        have hcI : ((checkT t : Int) == 0) = true := by rw [hc0]; rfl
        go_wp2_with fail
        refine (must_yes _).mono ?_
        rintro e w6 ⟨rfl, rfl⟩
        obtain ⟨W6, hW6⟩ : ∃ W6, W6 = ((((((w5.setCell ⟨w.heap.size, 0, none⟩ (.int .u8 k5)).setCell ⟨w.heap.size, 1, none⟩ (.int .u64 n5)).setCell ⟨w.heap.size, 2, none⟩ (.string s5)).setCell ⟨w.heap.size, 3, none⟩ (.slice a3 n3 c3)).setCell ⟨w.heap.size, 4, none⟩ (.slice a4 n4 c4)).setCell ⟨w.heap.size + 1, 0, none⟩ (.int .i64 ((k : Int) - (lx.length : Int)))).setCell ⟨w.heap.size + 1 + 1, 0, none⟩ (.int .i64 0) := ⟨_, rfl⟩
        have hfin : Res3 W6 w.heap.size (w.heap.size + 1) (w.heap.size + 1 + 1) (.int .u8 k5) (.int .u64 n5) (.string s5) (.slice a3 n3 c3) (.slice a4 n4 c4) (.int .i64 ((k : Int) - (lx.length : Int))) (.int .i64 0) ∧ ShowsT (lowm w.heap.size W6) t [.int .u8 k5, .int .u64 n5, .string s5, .slice a3 n3 c3, .slice a4 n4 c4] ∧ Below w.heap.size w W6 := by
          have n01 : w.heap.size ≠ w.heap.size + 1 := by omega
          have n02 : w.heap.size ≠ w.heap.size + 1 + 1 := by omega
          have n12 : w.heap.size + 1 ≠ w.heap.size + 1 + 1 := by omega
          have r1 := heap_setCell_same _ w.heap.size 0 _ 27 (.int .u8 k5) H35.out.r
          have r2 := heap_setCell_same _ w.heap.size 1 _ 27 (.int .u64 n5) r1
          have r3 := heap_setCell_same _ w.heap.size 2 _ 27 (.string s5) r2
          have r4 := heap_setCell_same _ w.heap.size 3 _ 27 (.slice a3 n3 c3) r3
          have r5 := heap_setCell_same _ w.heap.size 4 _ 27 (.slice a4 n4 c4) r4
          have p5 := (Below.heap_setCell _ ⟨w.heap.size, 4, none⟩ (.slice a4 n4 c4) _ (Ne.symm n01)).trans ((Below.heap_setCell _ ⟨w.heap.size, 3, none⟩ (.slice a3 n3 c3) _ (Ne.symm n01)).trans ((Below.heap_setCell _ ⟨w.heap.size, 2, none⟩ (.string s5) _ (Ne.symm n01)).trans ((Below.heap_setCell _ ⟨w.heap.size, 1, none⟩ (.int .u64 n5) _ (Ne.symm n01)).trans ((Below.heap_setCell _ ⟨w.heap.size, 0, none⟩ (.int .u8 k5) _ (Ne.symm n01)).trans H35.out.n))))
          have q5 := (Below.heap_setCell _ ⟨w.heap.size, 4, none⟩ (.slice a4 n4 c4) _ (Ne.symm n02)).trans ((Below.heap_setCell _ ⟨w.heap.size, 3, none⟩ (.slice a3 n3 c3) _ (Ne.symm n02)).trans ((Below.heap_setCell _ ⟨w.heap.size, 2, none⟩ (.string s5) _ (Ne.symm n02)).trans ((Below.heap_setCell _ ⟨w.heap.size, 1, none⟩ (.int .u64 n5) _ (Ne.symm n02)).trans ((Below.heap_setCell _ ⟨w.heap.size, 0, none⟩ (.int .u8 k5) _ (Ne.symm n02)).trans H35.out.e))))
          have p6 := heap_setCell_same _ (w.heap.size + 1) 0 #[Value.int .i64 0] 3 (.int .i64 ((k : Int) - (lx.length : Int))) p5
          have q6 := (Below.heap_setCell _ ⟨w.heap.size + 1, 0, none⟩ (.int .i64 ((k : Int) - (lx.length : Int))) _ (Ne.symm n12)).trans q5
          refine ⟨⟨?_, ?_, ?_⟩, ?_, ?_⟩
          · rw [hW6]
            exact (Below.heap_setCell _ _ _ _ n02).trans ((Below.heap_setCell _ _ _ _ n01).trans r5)
          · rw [hW6]
            exact (Below.heap_setCell _ _ _ _ n12).trans p6
          · rw [hW6]
            exact heap_setCell_same _ (w.heap.size + 1 + 1) 0 #[Value.int .i64 0] 33 (.int .i64 0) q6
          · rw [hW6]
            exact (((((((HSH5.out.sub (low_set (by omega) _ _)).sub (low_set (by omega) _ _)).sub (low_set (by omega) _ _)).sub (low_set (by omega) _ _)).sub (low_set (by omega) _ _)).sub (low_set (by omega) _ _)).sub (low_set (by omega) _ _)).sub (low_anti (by omega))
          · rw [hW6]
            exact below_set (below_set (below_set (below_set (below_set (below_set (below_set HB5.out (Nat.le_refl _) _) (Nat.le_refl _) _) (Nat.le_refl _) _) (Nat.le_refl _) _) (Nat.le_refl _) _) (by omega) _) (by omega) _
        have HFIN := Lib.hid hfin
        have hwrap : IntKind.i64.wrap ((k : Int) - (lx.length : Int)) = (k : Int) - (lx.length : Int) := i64_id _ (by omega) (by omega)
        clear hfin
        go_upto_region 6 with fail
        refine wp_region_noPanic ?_
        go_region_with (go_at_call 51; refine (HLF.out _ (by first | exact hrs5 | exact hrs5.keep (Nat.le_refl _) rfl (fun _ => rfl))).mono ?_; rintro e wl ⟨rfl, rfl⟩)
        all_goals
          refine NoPanic.normal ?_
          go_wp2_with fail
          rw [← hW6]
          refine leaves_cons (f := 47) (args := #[.pointer (some ⟨w.heap.size, 0, none⟩), .pointer (some ⟨w.heap.size + 1, 0, none⟩), .pointer (some ⟨w.heap.size + 1 + 1, 0, none⟩)]) (by simp) (by simp [go_sem]) ?_
          refine (catch_idle w.heap.size (w.heap.size + 1) (w.heap.size + 1 + 1) _).mono ?_
          rintro e u' w7 ⟨rfl, rfl, rfl⟩
          refine ⟨_, results_get _ _ _ _ _ (⟨HFIN.out.1.r, HFIN.out.1.n, HFIN.out.1.e⟩ : Res3 W6.drew _ _ _ _ _ _ _ _ _ _) rfl rfl rfl, ?_⟩
          rw [HRS.out]
          have hcast : ((k : Int) - (lx.length : Int)) = ((k - lx.length : Nat) : Int) := by omega
          rw [hcast]
          exact ⟨below_drew1 HFIN.out.2.2, [.int .u8 k5, .int .u64 n5, .string s5, .slice a3 n3 c3, .slice a4 n4 c4], rfl, HFIN.out.2.1.sub (low_sub (Nat.le_refl _) (fun _ _ _ => rfl))⟩
      · have hcI : ((checkT t : Int) == 0) = false := by simp; omega
        have hRn : R = none := by rw [HR2.out]; simp [hc0]
        subst hRn
        go_wp2_with fail
        refine (must_no _).mono ?_
        rintro e w6 ⟨rfl, rfl⟩
        refine leaves_cons (f := 47) (args := #[.pointer (some ⟨w.heap.size, 0, none⟩), .pointer (some ⟨w.heap.size + 1, 0, none⟩), .pointer (some ⟨w.heap.size + 1 + 1, 0, none⟩)]) (by simp) (by simp [go_sem]) ?_
        refine (catch_panicking w.heap.size (w.heap.size + 1) (w.heap.size + 1 + 1) _ _ _ _ _ _ _ w5 (.inr trivial) h35 (by omega) (by omega) (by omega)).mono ?_
        rintro e u' w7 ⟨rfl, rfl, h37, hB7⟩
        exact ⟨_, results_get _ w7 _ _ _ h37 rfl rfl rfl, hB5.trans (hB7 w.heap.size (Nat.le_refl _) (by omega) (by omega)), rfl⟩

end Go.Proofs.Ytnafibnhmhbfiaa
