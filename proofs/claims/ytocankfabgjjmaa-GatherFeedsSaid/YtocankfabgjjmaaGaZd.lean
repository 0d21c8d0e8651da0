/-
  The document's own Feed of a gatherer: a dead one; what is refused.
  Conditions: none but sizes.
-/
import Derived.Test.YtocankfabgjjmaaGaZa
import Derived.Test.YtocankfabgjjmaaGaZb
import Derived.Test.YtocankfabgjjmaaGaG
namespace Go.Proofs.Ytocankfabgjjmaa
open Go.RowKit
set_option linter.unusedVariables false
set_option linter.unusedSimpArgs false

theorem BoxA.fr {w : World} {b ch k : Nat} {v : Value} (h : BoxA w b ch k v) (i : Nat) : w.frozen? ⟨b, i, none⟩ = false := frozen_of_row w b i _ 34 h
theorem BoxA.set0 {w : World} {b ch k : Nat} {v : Value} (h : BoxA w b ch k v) (n : Nat) : BoxA (w.setCell ⟨b, 0, none⟩ (.int .u16 n)) b n k v := heap_setCell_same w b 0 _ 34 (.int .u16 n) h
theorem BoxA.set1 {w : World} {b ch k : Nat} {v : Value} (h : BoxA w b ch k v) (n : Nat) : BoxA (w.setCell ⟨b, 1, none⟩ (.int .u8 n)) b ch n v := heap_setCell_same w b 1 _ 34 (.int .u8 n) h
theorem BoxA.set2 {w : World} {b ch k : Nat} {v : Value} (h : BoxA w b ch k v) (u : Value) : BoxA (w.setCell ⟨b, 2, none⟩ u) b ch k u := heap_setCell_same w b 2 _ 34 u h
theorem BoxA.setAll {w : World} {b ch k : Nat} {v : Value} (h : BoxA w b ch k v) (ch' k' : Nat) (v' : Value) : BoxA (((w.setCell ⟨b, 0, none⟩ (.int .u16 ch')).setCell ⟨b, 1, none⟩ (.int .u8 k')).setCell ⟨b, 2, none⟩ v') b ch' k' v' := ((h.set0 ch').set1 k').set2 v'

/-- The three boxes that a call of Feed makes. -/
def z3 (w : World) (f : Fr) : World := ((w.alloc (Obj.cells #[.bool f.a, .bool f.b, .bool f.c, .bool f.d, .int .u8 f.t, .int .u8 f.k, .int .u16 f.ch, .string f.p] 30)).alloc (Obj.cells #[.int .u16 0, .int .u8 0, .slice none 0 0] 34)).alloc (Obj.cells #[.int .u16 0, .int .u8 0, .slice none 0 0] 34)
structure Z3 (w W : World) (f : Fr) : Prop where
  fr : BoxF W w.heap.size f
  r1 : BoxA W (w.heap.size + 1) 0 0 (.slice none 0 0)
  r2 : BoxA W (w.heap.size + 1 + 1) 0 0 (.slice none 0 0)
  bel : Below w.heap.size w W
theorem Z3.of (w : World) (f : Fr) : Z3 w (z3 w f) f ∧ (z3 w f).heap.size = w.heap.size + 1 + 1 + 1 := by
  refine ⟨⟨?_, ?_, ?_, ?_⟩, by simp [z3]⟩
  · exact ((BoxF.new w f).kept (f_below_box _ _) (Nat.le_refl _)).kept (f_below_box _ _) (Nat.le_refl _)
  · have := BoxA.new (w.alloc (Obj.cells #[.bool f.a, .bool f.b, .bool f.c, .bool f.d, .int .u8 f.t, .int .u8 f.k, .int .u16 f.ch, .string f.p] 30)) 0 0 (.slice none 0 0)
    rw [World.size_alloc] at this
    exact this.kept (f_below_box _ _) (Nat.le_refl _)
  · have := BoxA.new ((w.alloc (Obj.cells #[.bool f.a, .bool f.b, .bool f.c, .bool f.d, .int .u8 f.t, .int .u8 f.k, .int .u16 f.ch, .string f.p] 30)).alloc (Obj.cells #[.int .u16 0, .int .u8 0, .slice none 0 0] 34)) 0 0 (.slice none 0 0)
    rw [World.size_alloc, World.size_alloc] at this
    exact this
  · exact ((f_below_box w _).alloc (by simp) _).alloc (by simp; omega) _
theorem Z3.later {w W W' : World} {f : Fr} (h : Z3 w W f) (hs : W.heap.size = w.heap.size + 1 + 1 + 1) (hb : Below (w.heap.size + 1 + 1 + 1) W W') : Z3 w W' f :=
  ⟨(hb.block _ (by omega)).trans h.fr, (hb.block _ (by omega)).trans h.r1, (hb.block _ (by omega)).trans h.r2, h.bel.trans (hb.mono (by omega))⟩

set_option maxRecDepth 100000 in
set_option maxHeartbeats 4000000 in
theorem qfeed_dead (f : Fr) (gb : Nat) (v : Value) (w : World) (hg : w.heap[gb]? = some (.cells #[v, .bool true] 27 (0, 0))) :
    Calls Try.prog 8 #[.pointer (some ⟨gb, 0, none⟩), .agg f.vs.toArray] w fun e w' => e = .returned (ansV (ans0 9) (.slice none 0 0)) ∧ Below w.heap.size w w' := by
  have hgl : gb < w.heap.size := (Array.getElem?_eq_some_iff.1 hg).1
  have g1 : w.cell? ⟨gb, 1, none⟩ = some (.bool true) := by rw [cell_of_row w gb _ _ 27 (0, 0) hg]; rfl
  obtain ⟨hZ, hzs⟩ := Z3.of w f
  have c1 : (z3 w f).cell? ⟨gb, 1, none⟩ = some (.bool true) := (hZ.bel.cell (p := ⟨gb, 1, none⟩) hgl).trans g1
  obtain ⟨fa, fb, fc, fd, ft, fk, fch, fp⟩ := f
  simp only [Fr.vs]
  unfold z3 at *
  dsimp only at *
  generalize hW : ((w.alloc (Obj.cells #[.bool fa, .bool fb, .bool fc, .bool fd, .int .u8 ft, .int .u8 fk, .int .u16 fch, .string fp] 30)).alloc (Obj.cells #[.int .u16 0, .int .u8 0, .slice none 0 0] 34)).alloc (Obj.cells #[.int .u16 0, .int .u8 0, .slice none 0 0] 34) = W at *
  have HW := Lib.hid hW
  have x0 := hZ.r2.c0
  have x1 := hZ.r2.c1
  have x2 := hZ.r2.c2
  have y0 := hZ.r1.c0
  have y1 := hZ.r1.c1
  have y2 := hZ.r1.c2
  have y3 := hZ.r1.fr
  have HZ := Lib.hid hZ
  clear hg hgl g1 hW hzs hZ
  go_enter Try.func8, Try.ntmps8
  go_upto_region 2 with fail
  rw [HW.out]
  go_wp2_with fail
  refine bodyPost_ret (results_c3 rfl _ _ (w.heap.size + 1) 34 _ (0, 0) _ rfl (HZ.out.r1.setAll 0 0 (.slice none 0 0)) Try.underlying34 rfl (by kernel_rfl)) rfl ⟨rfl, below_set (below_set (below_set HZ.out.bel (by omega) _) (by omega) _) (by omega) _⟩

end Go.Proofs.Ytocankfabgjjmaa
namespace Go.Proofs.Ytocankfabgjjmaa
open Go.RowKit
set_option linter.unusedVariables false
set_option linter.unusedSimpArgs false

theorem payQ_le {M : List Fr} (h : ∀ x ∈ M, x.p.size ≤ 4084) : payQ M ≤ 4084 * M.length := by
  induction M with
  | nil => simp [payQ]
  | cons a M ih =>
    have h1 := h a (by simp)
    have h2 := ih fun x hx => h x (by simp [hx])
    simp only [payQ, List.length_cons]
    omega
theorem payQ_snoc (M : List Fr) (j : Nat) (h : j < M.length) : payQ (M.take (j + 1)) = payQ (M.take j) + M[j].p.size := by
  rw [List.take_succ_eq_append_getElem h, payQ_append]
  simp [payQ]
/-- The gatherer's box, written. -/
theorem box_dead {w : World} {gb : Nat} {v : Value} (h : w.heap[gb]? = some (.cells #[v, .bool false] 27 (0, 0))) : ((w.setCell ⟨gb, 1, none⟩ (.bool true)).setCell ⟨gb, 0, none⟩ (.slice none 0 0)).heap[gb]? = some (.cells #[.slice none 0 0, .bool true] 27 (0, 0)) :=
  heap_setCell_same _ gb 0 #[v, .bool true] 27 (.slice none 0 0) (heap_setCell_same w gb 1 #[v, .bool false] 27 (.bool true) h)
/-- What a refused frame leaves. -/
def FeedNo (w : World) (gb n : Nat) (e : Ending) (w' : World) : Prop := e = .returned (ansV (ans0 n) (.slice none 0 0)) ∧ w'.heap[gb]? = some (.cells #[.slice none 0 0, .bool true] 27 (0, 0)) ∧ Moved (fun k => k = gb) w w'
theorem feed_no_end {w V : World} {gb : Nat} {v : Value} {f : Fr} (hgl : gb < w.heap.size) (hZ : Z3 w V f) (hg : V.heap[gb]? = some (.cells #[v, .bool false] 27 (0, 0))) :
    BoxA (((((V.setCell ⟨gb, 1, none⟩ (.bool true)).setCell ⟨gb, 0, none⟩ (.slice none 0 0)).setCell ⟨w.heap.size + 1, 0, none⟩ (.int .u16 (0 : Nat))).setCell ⟨w.heap.size + 1, 1, none⟩ (.int .u8 (0 : Nat))).setCell ⟨w.heap.size + 1, 2, none⟩ (.slice none 0 0)) (w.heap.size + 1) 0 0 (.slice none 0 0) ∧
    (((((V.setCell ⟨gb, 1, none⟩ (.bool true)).setCell ⟨gb, 0, none⟩ (.slice none 0 0)).setCell ⟨w.heap.size + 1, 0, none⟩ (.int .u16 (0 : Nat))).setCell ⟨w.heap.size + 1, 1, none⟩ (.int .u8 (0 : Nat))).setCell ⟨w.heap.size + 1, 2, none⟩ (.slice none 0 0)).heap[gb]? = some (.cells #[.slice none 0 0, .bool true] 27 (0, 0)) ∧
    Moved (fun k => k = gb) w (((((V.setCell ⟨gb, 1, none⟩ (.bool true)).setCell ⟨gb, 0, none⟩ (.slice none 0 0)).setCell ⟨w.heap.size + 1, 0, none⟩ (.int .u16 (0 : Nat))).setCell ⟨w.heap.size + 1, 1, none⟩ (.int .u8 (0 : Nat))).setCell ⟨w.heap.size + 1, 2, none⟩ (.slice none 0 0)) := by
  have n1 : gb ≠ w.heap.size + 1 := by omega
  have n2 : w.heap.size + 1 ≠ gb := by omega
  have hr : BoxA ((V.setCell ⟨gb, 1, none⟩ (.bool true)).setCell ⟨gb, 0, none⟩ (.slice none 0 0)) (w.heap.size + 1) 0 0 (.slice none 0 0) :=
    ((heap_setCell_other _ _ _ _ n2).trans (heap_setCell_other _ _ _ _ n2)).trans hZ.r1
  refine ⟨hr.setAll 0 0 (.slice none 0 0), ?_, ?_⟩
  · exact ((heap_setCell_other _ _ _ _ n1).trans ((heap_setCell_other _ _ _ _ n1).trans (heap_setCell_other _ _ _ _ n1))).trans (box_dead hg)
  · exact (((((Moved.of_below (F := fun k => k = gb) hZ.bel).setCell (k := gb) (fun _ => rfl) _ _).setCell (k := gb) (fun _ => rfl) _ _).setCell (k := w.heap.size + 1) (fun h => by omega) _ _).setCell (k := w.heap.size + 1) (fun h => by omega) _ _).setCell (k := w.heap.size + 1) (fun h => by omega) _ _

set_option maxRecDepth 100000 in
set_option maxHeartbeats 8000000 in
theorem qfeed_no (f : Fr) (gb N c d : Nat) (A : Option Addr) (L : List Fr) (w : World) (hg : w.heap[gb]? = some (.cells #[.slice A N c, .bool false] 27 (0, 0))) (h : ShowsG frC w d (.slice A N c) L) (hl : L.length ≤ 1099511627776) (hz : ∀ x ∈ L, x.p.size ≤ 4084) (hf : f.p.size ≤ 140737488351232) (hr : refusedQ (atQ L f.plc) f ≠ 0) :
    Calls Try.prog 8 #[.pointer (some ⟨gb, 0, none⟩), .agg f.vs.toArray] w (FeedNo w gb (refusedQ (atQ L f.plc) f)) := by
  unfold FeedNo
  have hgl : gb < w.heap.size := (Array.getElem?_eq_some_iff.1 hg).1
  obtain ⟨hZ, hzs⟩ := Z3.of w f
  have hML : (atQ L f.plc).length ≤ L.length := List.length_filter_le _ _
  have hMz : ∀ x ∈ atQ L f.plc, x.p.size ≤ 4084 := fun x hx => hz x (List.mem_filter.1 hx).1
  have hGW := (hZ.bel.block gb hgl).trans hg
  have hSW := h.below' hZ.bel (Nat.le_refl _)
  have HOP := Lib.hid (qgopen_any gb N c d A false L f (z3 w f) hGW hSW hl)
  have HCK := Lib.hid (fun w' => qfcheck_any f w' hf)
  have HFI := Lib.hid (fun (A' : Option Addr) (n' c' d' : Nat) w' (hs : ShowsG frC w' d' (.slice A' n' c') (atQ L f.plc)) => qgfits_any A' n' c' d' (atQ L f.plc) f w' hs (by omega))
  generalize hM : atQ L f.plc = M at *
  generalize hR : refusedQ M f = R at *
  unfold refusedQ at hR
  have HRF := Lib.hid hR
  have HMZ := Lib.hid hMz
  have HRN := Lib.hid hr
  have c1 : (z3 w f).cell? ⟨gb, 1, none⟩ = some (.bool false) := by rw [cell_of_row _ gb _ _ 27 (0, 0) hGW]; rfl
  have HGW := Lib.hid hGW
  clear hM hR hMz hr hg h hSW hGW hz
  obtain ⟨fa, fb, fc, fd, ft, fk, fch, fp⟩ := f
  simp only [Fr.vs] at *
  unfold z3 at *
  dsimp only at *
  generalize hW : ((w.alloc (Obj.cells #[.bool fa, .bool fb, .bool fc, .bool fd, .int .u8 ft, .int .u8 fk, .int .u16 fch, .string fp] 30)).alloc (Obj.cells #[.int .u16 0, .int .u8 0, .slice none 0 0] 34)).alloc (Obj.cells #[.int .u16 0, .int .u8 0, .slice none 0 0] 34) = W at *
  have HW := Lib.hid hW
  have x0 := hZ.fr.c0
  have x1 := hZ.fr.c1
  have x2 := hZ.fr.c2
  have x3 := hZ.fr.c3
  have x4 := hZ.fr.c4
  have x5 := hZ.fr.c5
  have x6 := hZ.fr.c6
  have x7 := hZ.fr.c7
  have HZ := Lib.hid hZ
  have HZS := Lib.hid hzs
  clear hW hzs hZ
  dsimp only at x0 x1 x2 x3 x4 x5 x6 x7
  go_enter Try.func8, Try.ntmps8
  go_upto_region 2 with fail
  rw [HW.out]
  go_wp2_with fail
  refine HOP.out.mono ?_
  rintro e w1 ⟨v8, rfl, ho8, hb8⟩
  clear x0 x1 x2 x3 x4 x5 x6 x7 c1
  obtain ⟨A8, c8, hv8, hc8, _⟩ := ho8.form
  subst hv8
  obtain ⟨g8, hg8, hs8⟩ := ho8.shows
  have hzs := HZS.out
  have hb3 : Below (w.heap.size + 1 + 1 + 1) W w1 := by rw [← hzs]; exact hb8
  have hZ1 := HZ.out.later HZS.out hb3
  have x0 := hZ1.fr.c0
  have x7 := hZ1.fr.c7
  dsimp only at x0 x7
  have HS8 := Lib.hid hs8
  have HZ1 := Lib.hid hZ1
  have HB8 := Lib.hid hb3
  have HC8 := Lib.hid hc8
  clear hb8 ho8 hb3 hZ1 hs8 hzs hc8
  go_wp2_with fail
  have HGV := Lib.hid (fun V (hb : Below (w.heap.size + 1 + 1 + 1) W V) => show V.cell? ⟨gb, 0, none⟩ = some (.slice A N c) ∧ V.cell? ⟨gb, 1, none⟩ = some (.bool false) ∧ V.frozen? ⟨gb, 0, none⟩ = false ∧ V.frozen? ⟨gb, 1, none⟩ = false by
    have hgV := (hb.block gb (by omega)).trans HGW.out
    exact ⟨by rw [cell_of_row _ gb _ _ 27 (0, 0) hgV]; rfl, by rw [cell_of_row _ gb _ _ 27 (0, 0) hgV]; rfl, frozen_of_row _ gb 0 _ 27 hgV, frozen_of_row _ gb 1 _ 27 hgV⟩)
  have HML := Lib.hid (And.intro hML hl)
  have HF := Lib.hid hf
  clear x0 x7 hML hl hf
  go_loopw [9, 10] (fun n i wr => ∃ j S : Nat, j ≤ M.length ∧ i = .int .i64 j ∧ n = .int .i64 S ∧ Hid (S = fp.size + payQ (M.take j)) ∧ wr = w1) (fun _ i _ => M.length - (intOf i).toNat)
  case atStart => exact ⟨0, fp.size, Nat.zero_le _, rfl, rfl, Lib.hid (by simp [payQ]), rfl⟩
  case round =>
    obtain ⟨j, S, hj, rfl, rfl, HS, rfl⟩ := hrel
    by_cases hlt : j < M.length
    · have hjl : (j : Int) < (M.length : Int) := by omega
      obtain ⟨o, rfl, hd, hcl⟩ := HS8.out.at_ (by omega)
      have x7 := (fr_cell hcl hlt).2.2.2.2.2.2.2
      have hps := HMZ.out _ (List.getElem_mem hlt)
      have hsum := payQ_snoc M j hlt
      have hbd := payQ_le (M := M.take j) fun x hx => HMZ.out x (List.mem_of_mem_take hx)
      rw [List.length_take] at hbd
      generalize M[j].p = P0 at *
      obtain ⟨T, hT⟩ : ∃ T, T = S + P0.size := ⟨_, rfl⟩
      have hTT : T = fp.size + payQ (M.take (j + 1)) := by rw [hT, hsum, HS.out]; omega
      have HTT := Lib.hid hTT
      have WV := Lib.hid (show wrap64 ((S : Int) + (P0.size : Int)) = (T : Int) ∧ IntKind.i64.wrap ((S : Int) + (P0.size : Int)) = (T : Int) by
        have h1 := HF.out
        have h2 := HML.out
        have h3 := HS.out
        rw [show (S : Int) + (P0.size : Int) = (T : Int) by omega]
        exact ⟨w64_id _ (by omega) (by omega), i64_id _ (by omega) (by omega)⟩)
      have hjb : j ≤ 1099511627776 := by have := HML.out; omega
      obtain ⟨e1, e2⟩ := WV.out
      have HT := Lib.hid hT
      clear hcl hd hps hsum hbd hT hTT
      go_wp2_with fail
      go_roundw
      case rel => exact ⟨j + 1, T, by omega, by go_num, by first | rfl | (rw [show (S : Int) + (P0.size : Int) = (T : Int) by have := HT.out; omega]), HTT, by first | rfl | trivial⟩
      case measure => simp [intOf]; omega
    · have hjn : ¬ (j : Int) < (M.length : Int) := by omega
      have e : M.take j = M := List.take_of_length_le (by omega)
      rw [e] at HS
      clear e
      have x0 := HZ1.out.fr.c0
      have x1 := HZ1.out.fr.c1
      have x2 := HZ1.out.fr.c2
      have x3 := HZ1.out.fr.c3
      have x4 := HZ1.out.fr.c4
      have x5 := HZ1.out.fr.c5
      have x6 := HZ1.out.fr.c6
      have x7 := HZ1.out.fr.c7
      dsimp only at x0 x1 x2 x3 x4 x5 x6 x7
      have hR := HRF.out
      by_cases hc : checkF ⟨fa, fb, fc, fd, ft, fk, fch, fp⟩ = 0
      · have HCK1 := Lib.hid (fun w' => (HCK.out w'))
        rw [hc] at HCK1
        rw [if_neg (fun e => e hc)] at hR
        by_cases hft : fitsQ M ⟨fa, fb, fc, fd, ft, fk, fch, fp⟩ = false
        · rw [if_pos hft] at hR
          rw [hft] at HFI
          have HR9 := Lib.hid hR.symm
          clear hR hc hft HCK
          go_wp2_with fail
          refine (HCK1.out _).mono ?_
          rintro e V1 ⟨rfl, hbV1⟩
          have HBV1 := Lib.hid (HB8.out.trans (hbV1.mono (by have h1 := HB8.out.size; have h2 := HZS.out; omega)))
          have hsV1 := HS8.out.below' hbV1 (Nat.le_refl _)
          have hZV1 := HZ.out.later HZS.out HBV1.out
          clear x0 x1 x2 x3 x4 x5 x6 x7 hbV1
          have x0 := hZV1.fr.c0
          have x1 := hZV1.fr.c1
          have x2 := hZV1.fr.c2
          have x3 := hZV1.fr.c3
          have x4 := hZV1.fr.c4
          have x5 := hZV1.fr.c5
          have x6 := hZV1.fr.c6
          have x7 := hZV1.fr.c7
          dsimp only at x0 x1 x2 x3 x4 x5 x6 x7
          have HFI1 := Lib.hid (HFI.out A8 M.length c8 g8 V1 hsV1)
          clear hsV1 hZV1 HFI
          go_wp2_with fail
          refine HFI1.out.mono ?_
          rintro e V ⟨rfl, hbV⟩
          have HBV := Lib.hid (HBV1.out.trans (hbV.mono (by have h1 := HBV1.out.size; have h2 := HZS.out; omega)))
          clear x0 x1 x2 x3 x4 x5 x6 x7 hbV
          obtain ⟨u0, u1, u2, u3⟩ := HGV.out V HBV.out
          have hZV := HZ.out.later HZS.out HBV.out
          have r0 := hZV.r2.c0
          have r1 := hZV.r2.c1
          have r2 := hZV.r2.c2
          have s0 := hZV.r1.c0
          have s1 := hZV.r1.c1
          have s2 := hZV.r1.c2
          have s3 := hZV.r1.fr
          have HEND := Lib.hid (feed_no_end hgl hZV ((HBV.out.block gb (by have := hgl; omega)).trans HGW.out))
          clear hZV
          have n1 : gb ≠ w.heap.size + 1 := by omega
          have n2 : gb ≠ w.heap.size + 1 + 1 := by omega
          go_wp2_with fail
          refine bodyPost_ret (results_c3 rfl _ _ (w.heap.size + 1) 34 _ (0, 0) _ rfl HEND.out.1 Try.underlying34 rfl (by kernel_rfl)) rfl ⟨by rw [HR9.out]; rfl, HEND.out.2⟩
        · rw [if_neg hft] at hR
          have hft2 : fitsQ M ⟨fa, fb, fc, fd, ft, fk, fch, fp⟩ = true := by simpa using hft
          rw [hft2] at HFI
          by_cases hS : 16384 < fp.size + payQ M
          · rw [if_pos hS] at hR
            have hS2 : (16384 : Int) < (S : Int) := by have := HS.out; omega
            have HR9 := Lib.hid hR.symm
            clear hR hc hft hft2 HCK hS
            go_wp2_with fail
            refine (HCK1.out _).mono ?_
            rintro e V1 ⟨rfl, hbV1⟩
            have HBV1 := Lib.hid (HB8.out.trans (hbV1.mono (by have h1 := HB8.out.size; have h2 := HZS.out; omega)))
            have hsV1 := HS8.out.below' hbV1 (Nat.le_refl _)
            have hZV1 := HZ.out.later HZS.out HBV1.out
            clear x0 x1 x2 x3 x4 x5 x6 x7 hbV1
            have x0 := hZV1.fr.c0
            have x1 := hZV1.fr.c1
            have x2 := hZV1.fr.c2
            have x3 := hZV1.fr.c3
            have x4 := hZV1.fr.c4
            have x5 := hZV1.fr.c5
            have x6 := hZV1.fr.c6
            have x7 := hZV1.fr.c7
            dsimp only at x0 x1 x2 x3 x4 x5 x6 x7
            have HFI1 := Lib.hid (HFI.out A8 M.length c8 g8 V1 hsV1)
            clear hsV1 hZV1 HFI
            go_wp2_with fail
            refine HFI1.out.mono ?_
            rintro e V ⟨rfl, hbV⟩
            have HBV := Lib.hid (HBV1.out.trans (hbV.mono (by have h1 := HBV1.out.size; have h2 := HZS.out; omega)))
            clear x0 x1 x2 x3 x4 x5 x6 x7 hbV
            obtain ⟨u0, u1, u2, u3⟩ := HGV.out V HBV.out
            have hZV := HZ.out.later HZS.out HBV.out
            have r0 := hZV.r2.c0
            have r1 := hZV.r2.c1
            have r2 := hZV.r2.c2
            have s0 := hZV.r1.c0
            have s1 := hZV.r1.c1
            have s2 := hZV.r1.c2
            have s3 := hZV.r1.fr
            have HEND := Lib.hid (feed_no_end hgl hZV ((HBV.out.block gb (by have := hgl; omega)).trans HGW.out))
            clear hZV
            have n1 : gb ≠ w.heap.size + 1 := by omega
            have n2 : gb ≠ w.heap.size + 1 + 1 := by omega
            go_wp2_with fail
            refine bodyPost_ret (results_c3 rfl _ _ (w.heap.size + 1) 34 _ (0, 0) _ rfl HEND.out.1 Try.underlying34 rfl (by kernel_rfl)) rfl ⟨by rw [HR9.out]; rfl, HEND.out.2⟩
          · rw [if_neg hS] at hR
            exact absurd hR.symm HRN.out
      · rw [if_pos hc] at hR
        have hce := checkF_no hc
        have HCK1 := Lib.hid (fun w' => (HCK.out w'))
        rw [hce] at HCK1
        have HR9 := Lib.hid hR.symm
        clear hR hc hce HCK HFI
        go_wp2_with fail
        refine (HCK1.out _).mono ?_
        rintro e V ⟨rfl, hbV⟩
        have HBV := Lib.hid (HB8.out.trans (hbV.mono (by have h1 := HB8.out.size; have h2 := HZS.out; omega)))
        clear x0 x1 x2 x3 x4 x5 x6 x7 hbV
        obtain ⟨u0, u1, u2, u3⟩ := HGV.out V HBV.out
        have hZV := HZ.out.later HZS.out HBV.out
        have r0 := hZV.r2.c0
        have r1 := hZV.r2.c1
        have r2 := hZV.r2.c2
        have s0 := hZV.r1.c0
        have s1 := hZV.r1.c1
        have s2 := hZV.r1.c2
        have s3 := hZV.r1.fr
        have HEND := Lib.hid (feed_no_end hgl hZV ((HBV.out.block gb (by have := hgl; omega)).trans HGW.out))
        clear hZV
        have n1 : gb ≠ w.heap.size + 1 := by omega
        have n2 : gb ≠ w.heap.size + 1 + 1 := by omega
        go_wp2_with fail
        refine bodyPost_ret (results_c3 rfl _ _ (w.heap.size + 1) 34 _ (0, 0) _ rfl HEND.out.1 Try.underlying34 rfl (by kernel_rfl)) rfl ⟨by rw [HR9.out]; rfl, HEND.out.2⟩

end Go.Proofs.Ytocankfabgjjmaa
