/-
  The document's own Feed of a gatherer: a frame that is taken and completes nothing.
  Conditions: none but sizes.
-/
import Derived.Test.YtocankfabgjjmaaGaZd
import Derived.Test.YtocankfabgjjmaaGaW
import Derived.Deep.RegionLaw
namespace Go.Proofs.Ytocankfabgjjmaa
open Go.RowKit
set_option linter.unusedVariables false
set_option linter.unusedSimpArgs false

/-- What a frame leaves that is taken and completes nothing. -/
def FeedOn (w : World) (gb B : Nat) (v : Value) (L : List Fr) (e : Ending) (w' : World) : Prop :=
  ∃ v', e = .returned (ansV (ans0 0) (.slice none 0 0)) ∧ w'.heap[gb]? = some (.cells #[v', .bool false] 27 (0, 0)) ∧ OwnG frC 30 w' B v' L ∧ (v'.ownBlock = v.ownBlock ∨ ∃ k, v'.ownBlock = some k ∧ w.heap.size ≤ k) ∧ Moved (fun k => k = gb ∨ v.ownBlock = some k) w w'
/-- Behind the append, ahead of the store. -/
structure Z4 (w W : World) (f : Fr) (gb : Nat) (v u : Value) : Prop where
  fr : BoxF W w.heap.size f
  r1 : BoxA W (w.heap.size + 1) 0 0 (.slice none 0 0)
  r2 : BoxA W (w.heap.size + 1 + 1) 0 0 (.slice none 0 0)
  g : W.heap[gb]? = some (.cells #[u, .bool false] 27 (0, 0))
  mv : Moved (fun k => k = gb ∨ v.ownBlock = some k) w W
theorem Z4.of {w V V8 : World} {f : Fr} {gb B : Nat} {v : Value} {L : List Fr} {o : Obj} (hZ : Z3 w V f) (hs : w.heap.size + 1 + 1 + 1 ≤ V.heap.size) (hO : OwnG frC 30 w B v L) (hgB : gb < B) (hB : B ≤ w.heap.size)
    (hg : V.heap[gb]? = some (.cells #[v, .bool false] 27 (0, 0))) (h8 : (V.alloc o).drew.grownBy V8 v.ownBlock) : Z4 w V8 f gb v v := by
  have hA : Below V.heap.size V (V.alloc o).drew := (f_below_box V o).drew
  have hM : Moved (fun k => v.ownBlock = some k) (V.alloc o).drew V8 := Moved.of_grown h8 fun _ h => h
  have hsz : V.heap.size ≤ (V.alloc o).drew.heap.size := hA.size
  have hkeep : ∀ k, k < V.heap.size → ¬ v.ownBlock = some k → V8.heap[k]? = V.heap[k]? := fun k hk hn => (hM.block k (by omega) hn).trans (hA.block k hk)
  have hbk : ∀ k, v.ownBlock = some k → B ≤ k ∧ k < w.heap.size := hO.block
  refine ⟨(hkeep _ (by omega) fun e => by have := hbk _ e; omega).trans hZ.fr, (hkeep _ (by omega) fun e => by have := hbk _ e; omega).trans hZ.r1, (hkeep _ (by omega) fun e => by have := hbk _ e; omega).trans hZ.r2, (hkeep _ (by omega) fun e => by have := hbk _ e; omega).trans hg, ?_⟩
  exact (Moved.of_below (F := fun k => k = gb ∨ v.ownBlock = some k) (hZ.bel.trans (hA.mono (by have := hZ.bel.size; omega)))).trans hM fun k _ hk => .inr hk
theorem Z4.set {w W : World} {f : Fr} {gb : Nat} {v u u' : Value} (h : Z4 w W f gb v u) (hgl : gb < w.heap.size) : Z4 w (W.setCell ⟨gb, 0, none⟩ u') f gb v u' := by
  have n0 : w.heap.size ≠ gb := by omega
  have n1 : w.heap.size + 1 ≠ gb := by omega
  have n2 : w.heap.size + 1 + 1 ≠ gb := by omega
  exact ⟨(heap_setCell_other _ _ _ _ n0).trans h.fr, (heap_setCell_other _ _ _ _ n1).trans h.r1, (heap_setCell_other _ _ _ _ n2).trans h.r2, heap_setCell_same W gb 0 #[u, .bool false] 27 u' h.g, h.mv.setCell (k := gb) (fun _ => .inl rfl) _ _⟩

theorem on_store {w W : World} {f : Fr} {gb B : Nat} {v u u' : Value} {L : List Fr} (h : Z4 w W f gb v u) (ho : OwnG frC 30 W B u' L) (hgB : gb < B) (hgl : gb < w.heap.size) (hw : u'.ownBlock = v.ownBlock ∨ ∃ k, u'.ownBlock = some k ∧ w.heap.size + 1 + 1 + 1 ≤ k) :
    ∃ v8, Z4 w (W.setCell ⟨gb, 0, none⟩ u') f gb v v8 ∧ OwnG frC 30 (W.setCell ⟨gb, 0, none⟩ u') B v8 L ∧ (v8.ownBlock = v.ownBlock ∨ ∃ k, v8.ownBlock = some k ∧ w.heap.size + 1 + 1 + 1 ≤ k) :=
  ⟨u', h.set hgl, ho.keep fun g hg => by
    have hn : g ≠ gb := by have := (ho.block g hg).1; omega
    exact heap_setCell_other _ _ _ _ hn, hw⟩
theorem on_end {w W : World} {f : Fr} {gb B : Nat} {v u : Value} {L : List Fr} (h : Z4 w W f gb v u) (ho : OwnG frC 30 W B u L) (hgB : gb < B) (hBw : B ≤ w.heap.size) (hv : ∀ k, v.ownBlock = some k → k < w.heap.size) (hw : u.ownBlock = v.ownBlock ∨ ∃ k, u.ownBlock = some k ∧ w.heap.size + 1 + 1 + 1 ≤ k) :
    BoxA (((W.setCell ⟨w.heap.size + 1, 0, none⟩ (.int .u16 (0 : Nat))).setCell ⟨w.heap.size + 1, 1, none⟩ (.int .u8 (0 : Nat))).setCell ⟨w.heap.size + 1, 2, none⟩ (.slice none 0 0)) (w.heap.size + 1) 0 0 (.slice none 0 0) ∧
    (((W.setCell ⟨w.heap.size + 1, 0, none⟩ (.int .u16 (0 : Nat))).setCell ⟨w.heap.size + 1, 1, none⟩ (.int .u8 (0 : Nat))).setCell ⟨w.heap.size + 1, 2, none⟩ (.slice none 0 0)).heap[gb]? = some (.cells #[u, .bool false] 27 (0, 0)) ∧
    OwnG frC 30 (((W.setCell ⟨w.heap.size + 1, 0, none⟩ (.int .u16 (0 : Nat))).setCell ⟨w.heap.size + 1, 1, none⟩ (.int .u8 (0 : Nat))).setCell ⟨w.heap.size + 1, 2, none⟩ (.slice none 0 0)) B u L ∧
    (u.ownBlock = v.ownBlock ∨ ∃ k, u.ownBlock = some k ∧ w.heap.size ≤ k) ∧
    Moved (fun k => k = gb ∨ v.ownBlock = some k) w (((W.setCell ⟨w.heap.size + 1, 0, none⟩ (.int .u16 (0 : Nat))).setCell ⟨w.heap.size + 1, 1, none⟩ (.int .u8 (0 : Nat))).setCell ⟨w.heap.size + 1, 2, none⟩ (.slice none 0 0)) := by
  have n1 : gb ≠ w.heap.size + 1 := by omega
  refine ⟨h.r1.setAll 0 0 (.slice none 0 0), ((heap_setCell_other _ _ _ _ n1).trans ((heap_setCell_other _ _ _ _ n1).trans (heap_setCell_other _ _ _ _ n1))).trans h.g, ho.keep fun g hg => ?_, ?_, ?_⟩
  · have hn : g ≠ w.heap.size + 1 := by
      rcases hw with e | ⟨k, e, hk⟩
      · have := hv g (by rw [← e]; exact hg)
        omega
      · rw [e] at hg
        injection hg with hg
        omega
    exact (heap_setCell_other _ _ _ _ hn).trans ((heap_setCell_other _ _ _ _ hn).trans (heap_setCell_other _ _ _ _ hn))
  · rcases hw with e | ⟨k, e, hk⟩
    · exact .inl e
    · exact .inr ⟨k, e, by omega⟩
  · exact ((h.mv.setCell (k := w.heap.size + 1) (fun h => by omega) _ _).setCell (k := w.heap.size + 1) (fun h => by omega) _ _).setCell (k := w.heap.size + 1) (fun h => by omega) _ _

set_option maxRecDepth 100000 in
set_option maxHeartbeats 8000000 in
theorem qfeed_on (f : Fr) (gb N c B : Nat) (A : Option Addr) (L : List Fr) (w : World) (hg : w.heap[gb]? = some (.cells #[.slice A N c, .bool false] 27 (0, 0))) (h : OwnG frC 30 w B (.slice A N c) L) (hgB : gb < B) (hBw : B ≤ w.heap.size) (hl : L.length ≤ 1099511627776) (hz : ∀ x ∈ L, x.p.size ≤ 4084) (hf : f.p.size ≤ 140737488351232) (hr : refusedQ (atQ L f.plc) f = 0) (hnd : ¬ (f.b = true ∧ f.d = true)) :
    Calls Try.prog 8 #[.pointer (some ⟨gb, 0, none⟩), .agg f.vs.toArray] w (FeedOn w gb B (.slice A N c) (L ++ [f])) := by
  unfold FeedOn
  obtain ⟨d, _, hsh⟩ := h.shows
  have HOW := Lib.hid h
  have HGB := Lib.hid (And.intro hgB hBw)
  have HND := Lib.hid hnd
  have hgl : gb < w.heap.size := (Array.getElem?_eq_some_iff.1 hg).1
  obtain ⟨hZ, hzs⟩ := Z3.of w f
  have hML : (atQ L f.plc).length ≤ L.length := List.length_filter_le _ _
  have hMz : ∀ x ∈ atQ L f.plc, x.p.size ≤ 4084 := fun x hx => hz x (List.mem_filter.1 hx).1
  have hGW := (hZ.bel.block gb hgl).trans hg
  have hSW := hsh.below' hZ.bel (Nat.le_refl _)
  have HOP := Lib.hid (qgopen_any gb N c d A false L f (z3 w f) hGW hSW hl)
  have HCK := Lib.hid (fun w' => qfcheck_any f w' hf)
  have HFI := Lib.hid (fun (A' : Option Addr) (n' c' d' : Nat) w' (hs : ShowsG frC w' d' (.slice A' n' c') (atQ L f.plc)) => qgfits_any A' n' c' d' (atQ L f.plc) f w' hs (by omega))
  generalize hM : atQ L f.plc = M at *
  generalize hR : refusedQ M f = R at *
  unfold refusedQ at hR
  have HRF := Lib.hid hR
  have HMZ := Lib.hid hMz
  have HRN := Lib.hid hr
  have c1 : (z3 w f).cell? ⟨gb, 1, none⟩ = some (.bool false) := by rw [cell_of_row _ gb _ _ 27 (0, 0) hGW]; rfl
  have HGW := Lib.hid hGW
  clear hM hR hMz hr hg h hsh hSW hGW hz hgB hBw hnd
  obtain ⟨fa, fb, fc, fd, ft, fk, fch, fp⟩ := f
  simp only [Fr.vs] at *
  unfold z3 at *
  dsimp only at *
  generalize hW : ((w.alloc (Obj.cells #[.bool fa, .bool fb, .bool fc, .bool fd, .int .u8 ft, .int .u8 fk, .int .u16 fch, .string fp] 30)).alloc (Obj.cells #[.int .u16 0, .int .u8 0, .slice none 0 0] 34)).alloc (Obj.cells #[.int .u16 0, .int .u8 0, .slice none 0 0] 34) = W at *
  have HW := Lib.hid hW
  have x0 := hZ.fr.c0
  have x1 := hZ.fr.c1
  have x2 := hZ.fr.c2
  have x3 := hZ.fr.c3
  have x4 := hZ.fr.c4
  have x5 := hZ.fr.c5
  have x6 := hZ.fr.c6
  have x7 := hZ.fr.c7
  have HZ := Lib.hid hZ
  have HZS := Lib.hid hzs
  clear hW hzs hZ
  dsimp only at x0 x1 x2 x3 x4 x5 x6 x7
  go_enter Try.func8, Try.ntmps8
  go_upto_region 2 with fail
  rw [HW.out]
  go_wp2_with fail
  refine HOP.out.mono ?_
  rintro e w1 ⟨v8, rfl, ho8, hb8⟩
  clear x0 x1 x2 x3 x4 x5 x6 x7 c1
  obtain ⟨A8, c8, hv8, hc8, _⟩ := ho8.form
  subst hv8
  obtain ⟨g8, hg8, hs8⟩ := ho8.shows
  have hzs := HZS.out
  have hb3 : Below (w.heap.size + 1 + 1 + 1) W w1 := by rw [← hzs]; exact hb8
  have hZ1 := HZ.out.later HZS.out hb3
  have x0 := hZ1.fr.c0
  have x7 := hZ1.fr.c7
  dsimp only at x0 x7
  have HS8 := Lib.hid hs8
  have HZ1 := Lib.hid hZ1
  have HB8 := Lib.hid hb3
  have HC8 := Lib.hid hc8
  clear hb8 ho8 hb3 hZ1 hs8 hzs hc8
  go_wp2_with fail
  have HGV := Lib.hid (fun V (hb : Below (w.heap.size + 1 + 1 + 1) W V) => show V.cell? ⟨gb, 0, none⟩ = some (.slice A N c) ∧ V.cell? ⟨gb, 1, none⟩ = some (.bool false) ∧ V.frozen? ⟨gb, 0, none⟩ = false ∧ V.frozen? ⟨gb, 1, none⟩ = false by
    have hgV := (hb.block gb (by omega)).trans HGW.out
    exact ⟨by rw [cell_of_row _ gb _ _ 27 (0, 0) hgV]; rfl, by rw [cell_of_row _ gb _ _ 27 (0, 0) hgV]; rfl, frozen_of_row _ gb 0 _ 27 hgV, frozen_of_row _ gb 1 _ 27 hgV⟩)
  have HML := Lib.hid (And.intro hML hl)
  have HF := Lib.hid hf
  clear x0 x7 hML hl hf
  go_loopw [9, 10] (fun n i wr => ∃ j S : Nat, j ≤ M.length ∧ i = .int .i64 j ∧ n = .int .i64 S ∧ Hid (S = fp.size + payQ (M.take j)) ∧ wr = w1) (fun _ i _ => M.length - (intOf i).toNat)
  case atStart => exact ⟨0, fp.size, Nat.zero_le _, rfl, rfl, Lib.hid (by simp [payQ]), rfl⟩
  case round =>
    obtain ⟨j, S, hj, rfl, rfl, HS, rfl⟩ := hrel
    by_cases hlt : j < M.length
    · have hjl : (j : Int) < (M.length : Int) := by omega
      obtain ⟨o, rfl, hd, hcl⟩ := HS8.out.at_ (by omega)
      have x7 := (fr_cell hcl hlt).2.2.2.2.2.2.2
      have hps := HMZ.out _ (List.getElem_mem hlt)
      have hsum := payQ_snoc M j hlt
      have hbd := payQ_le (M := M.take j) fun x hx => HMZ.out x (List.mem_of_mem_take hx)
      rw [List.length_take] at hbd
      generalize M[j].p = P0 at *
      obtain ⟨T, hT⟩ : ∃ T, T = S + P0.size := ⟨_, rfl⟩
      have hTT : T = fp.size + payQ (M.take (j + 1)) := by rw [hT, hsum, HS.out]; omega
      have HTT := Lib.hid hTT
      have WV := Lib.hid (show wrap64 ((S : Int) + (P0.size : Int)) = (T : Int) ∧ IntKind.i64.wrap ((S : Int) + (P0.size : Int)) = (T : Int) by
        have h1 := HF.out
        have h2 := HML.out
        have h3 := HS.out
        rw [show (S : Int) + (P0.size : Int) = (T : Int) by omega]
        exact ⟨w64_id _ (by omega) (by omega), i64_id _ (by omega) (by omega)⟩)
      have hjb : j ≤ 1099511627776 := by have := HML.out; omega
      obtain ⟨e1, e2⟩ := WV.out
      have HT := Lib.hid hT
      clear hcl hd hps hsum hbd hT hTT
      go_wp2_with fail
      go_roundw
      case rel => exact ⟨j + 1, T, by omega, by go_num, by first | rfl | (rw [show (S : Int) + (P0.size : Int) = (T : Int) by have := HT.out; omega]), HTT, by first | rfl | trivial⟩
      case measure => simp [intOf]; omega
    · have hjn : ¬ (j : Int) < (M.length : Int) := by omega
      have e : M.take j = M := List.take_of_length_le (by omega)
      rw [e] at HS
      clear e
      have x0 := HZ1.out.fr.c0
      have x1 := HZ1.out.fr.c1
      have x2 := HZ1.out.fr.c2
      have x3 := HZ1.out.fr.c3
      have x4 := HZ1.out.fr.c4
      have x5 := HZ1.out.fr.c5
      have x6 := HZ1.out.fr.c6
      have x7 := HZ1.out.fr.c7
      dsimp only at x0 x1 x2 x3 x4 x5 x6 x7
      have hR := HRF.out
      by_cases hc : checkF ⟨fa, fb, fc, fd, ft, fk, fch, fp⟩ = 0
      · have HCK1 := Lib.hid (fun w' => (HCK.out w'))
        rw [hc] at HCK1
        rw [if_neg (fun e => e hc)] at hR
        by_cases hft : fitsQ M ⟨fa, fb, fc, fd, ft, fk, fch, fp⟩ = false
        · rw [if_pos hft] at hR
          have := HRN.out
          omega
        · rw [if_neg hft] at hR
          have hft2 : fitsQ M ⟨fa, fb, fc, fd, ft, fk, fch, fp⟩ = true := by simpa using hft
          rw [hft2] at HFI
          by_cases hS : 16384 < fp.size + payQ M
          · rw [if_pos hS] at hR
            have := HRN.out
            omega
          · have hS2 : ¬ (16384 : Int) < (S : Int) := by have := HS.out; omega
            clear hR hc hft hft2 HCK hS
            go_wp2_with fail
            refine (HCK1.out _).mono ?_
            rintro e V1 ⟨rfl, hbV1⟩
            have HBV1 := Lib.hid (HB8.out.trans (hbV1.mono (by have h1 := HB8.out.size; have h2 := HZS.out; omega)))
            have hsV1 := HS8.out.below' hbV1 (Nat.le_refl _)
            have hZV1 := HZ.out.later HZS.out HBV1.out
            clear x0 x1 x2 x3 x4 x5 x6 x7 hbV1
            have x0 := hZV1.fr.c0
            have x1 := hZV1.fr.c1
            have x2 := hZV1.fr.c2
            have x3 := hZV1.fr.c3
            have x4 := hZV1.fr.c4
            have x5 := hZV1.fr.c5
            have x6 := hZV1.fr.c6
            have x7 := hZV1.fr.c7
            dsimp only at x0 x1 x2 x3 x4 x5 x6 x7
            have HFI1 := Lib.hid (HFI.out A8 M.length c8 g8 V1 hsV1)
            clear hsV1 hZV1 HFI
            go_wp2_with fail
            refine HFI1.out.mono ?_
            rintro e V ⟨rfl, hbV⟩
            have HBV := Lib.hid (HBV1.out.trans (hbV.mono (by have h1 := HBV1.out.size; have h2 := HZS.out; omega)))
            clear x0 x1 x2 x3 x4 x5 x6 x7 hbV
            go_upto_region 19 with fail
            have hZV := HZ.out.later HZS.out HBV.out
            have hsV : w.heap.size + 1 + 1 + 1 ≤ V.heap.size := by have h1 := HBV.out.size; have h2 := HZS.out; omega
            have hgV := (HBV.out.block gb (by omega)).trans HGW.out
            have hoV : OwnG frC 30 V B (.slice A N c) L := HOW.out.below hZV.bel (Nat.le_refl _)
            obtain ⟨hN, _, _⟩ := hoV.len_
            have hoA := hoV.alloc_ (Obj.cells #[.bool fa, .bool fb, .bool fc, .bool fd, .int .u8 ft, .int .u8 fk, .int .u16 fch, .string fp] 30)
            have hoD : OwnG frC 30 (V.alloc (Obj.cells #[.bool fa, .bool fb, .bool fc, .bool fd, .int .u8 ft, .int .u8 fk, .int .u16 fch, .string fp] 30)).drew B (.slice A N c) L := hoA
            have HZ4 := Lib.hid (fun V8 (h8 : (V.alloc (Obj.cells #[.bool fa, .bool fb, .bool fc, .bool fd, .int .u8 ft, .int .u8 fk, .int .u16 fch, .string fp] 30)).drew.grownBy V8 (Value.slice A N c).ownBlock) => Z4.of (gb := gb) hZV hsV HOW.out HGB.out.1 HGB.out.2 hgV h8)
            have hHA : (V.alloc (Obj.cells #[.bool fa, .bool fb, .bool fc, .bool fd, .int .u8 ft, .int .u8 fk, .int .u16 fch, .string fp] 30)).drew.heap[gb]? = some (.cells #[.slice A N c, .bool false] 27 (0, 0)) := ((f_below_box V (Obj.cells #[.bool fa, .bool fb, .bool fc, .bool fd, .int .u8 ft, .int .u8 fk, .int .u16 fch, .string fp] 30)).block gb (by omega)).trans hgV
            have l0 : (V.alloc (Obj.cells #[.bool fa, .bool fb, .bool fc, .bool fd, .int .u8 ft, .int .u8 fk, .int .u16 fch, .string fp] 30)).cell? ⟨gb, 0, none⟩ = some (.slice A N c) := by
              have : (V.alloc (Obj.cells #[.bool fa, .bool fb, .bool fc, .bool fd, .int .u8 ft, .int .u8 fk, .int .u16 fch, .string fp] 30)).drew.cell? ⟨gb, 0, none⟩ = some (.slice A N c) := by rw [cell_of_row _ gb _ _ 27 (0, 0) hHA]; rfl
              exact this
            have u0 : V.cell? ⟨gb, 0, none⟩ = some (.slice A N c) := by rw [cell_of_row _ gb _ _ 27 (0, 0) hgV]; rfl
            have x0 := hZV.fr.c0
            have x1 := hZV.fr.c1
            have x2 := hZV.fr.c2
            have x3 := hZV.fr.c3
            have x4 := hZV.fr.c4
            have x5 := hZV.fr.c5
            have x6 := hZV.fr.c6
            have x7 := hZV.fr.c7
            dsimp only at x0 x1 x2 x3 x4 x5 x6 x7
            have hLb := HML.out
            have hBb := HGB.out
            clear hoA hoV hHA hZV
            go_cut [76] from 68 to 77 (fun z wx => ∃ v8, Z4 w wx ⟨fa, fb, fc, fd, ft, fk, fch, fp⟩ gb (.slice A N c) v8 ∧ OwnG frC 30 wx B v8 (L ++ [⟨fa, fb, fc, fd, ft, fk, fch, fp⟩]) ∧ (v8.ownBlock = (Value.slice A N c).ownBlock ∨ ∃ k, v8.ownBlock = some k ∧ w.heap.size + 1 + 1 + 1 ≤ k))
            case first =>
              go_region_law ((refine step_appendGW frC _ rfl (.tmp 72) (.tmp 74) 22 rfl B 30 (.agg #[.bool false, .bool false, .bool false, .bool false, .int .u8 0, .int .u8 0, .int .u16 0, .string ⟨#[]⟩]) 24 Try.underlying22 infoFr rfl (.slice A N c) L rfl hoD V.heap.size (.slice (some ⟨V.heap.size, 0, none⟩) 1 1) [⟨fa, fb, fc, fd, ft, fk, fch, fp⟩] rfl (ShowsG.lit (C := frC) [⟨fa, fb, fc, fd, ft, fk, fch, fp⟩] (by simp [Code.all, frC, Fr.vs]) (by simp [maxLen])) (by simp) (by simp; omega) (by simp; omega) (by simp; omega) ?_
                              intro v8 w8 ho8 hg8 hwh8
                              obtain ⟨A9, n9, c9, rfl⟩ : ∃ A n c, v8 = .slice A n c := by
                                obtain ⟨A, c, e, _⟩ := ho8.form
                                exact ⟨_, _, _, e⟩
                              have hz8 := HZ4.out w8 hg8
                              have f8 : w8.frozen? ⟨gb, 0, none⟩ = false := frozen_of_row _ gb 0 _ 27 hz8.g
                              have q8 : w8.cell? ⟨gb, 0, none⟩ = some (.slice A N c) := by rw [cell_of_row _ gb _ _ 27 (0, 0) hz8.g]; rfl
                              have HQ := Lib.hid (And.intro hz8 (And.intro ho8 hwh8))
                              clear hz8 ho8 hwh8 hg8))
              all_goals
                go_wp2_with fail
                go_meet
                exact on_store HQ.out.1 HQ.out.2.1 HGB.out.1 hgl (by
                  rcases HQ.out.2.2 with h | h
                  · exact .inl h
                  · refine .inr ⟨_, h, ?_⟩
                    show w.heap.size + 1 + 1 + 1 ≤ (V.alloc (Obj.cells #[.bool fa, .bool fb, .bool fc, .bool fd, .int .u8 ft, .int .u8 fk, .int .u16 fch, .string fp] 30)).heap.size
                    rw [World.size_alloc]
                    omega)
            case rest =>
              obtain ⟨v8, hz8, ho8, hw8⟩ := hcut
              rename World => wx
              have HEND := Lib.hid (on_end hz8 ho8 HGB.out.1 HGB.out.2 (fun k hk => (HOW.out.block k hk).2) hw8)
              clear u0 l0 x0 x1 x2 x3 x4 x5 x6 x7
              have x1 := hz8.fr.c1
              have x3 := hz8.fr.c3
              have r0 := hz8.r2.c0
              have r1 := hz8.r2.c1
              have r2 := hz8.r2.c2
              have s0 := hz8.r1.c0
              have s1 := hz8.r1.c1
              have s2 := hz8.r1.c2
              have s3 := hz8.r1.fr
              dsimp only at x1 x3
              clear hz8 ho8 hw8 hoD hgV
              have hnd := HND.out
              clear HND
              cases fd with
              | false =>
                go_wp2_with fail
                refine bodyPost_ret (results_c3 rfl _ _ (w.heap.size + 1) 34 _ (0, 0) _ rfl HEND.out.1 Try.underlying34 rfl (by kernel_rfl)) rfl (by first | exact ⟨v8, rfl, HEND.out.2⟩ | exact ⟨rfl, v8, HEND.out.2⟩)
              | true =>
                cases fb with
                | false =>
                  go_wp2_with fail
                  refine bodyPost_ret (results_c3 rfl _ _ (w.heap.size + 1) 34 _ (0, 0) _ rfl HEND.out.1 Try.underlying34 rfl (by kernel_rfl)) rfl (by first | exact ⟨v8, rfl, HEND.out.2⟩ | exact ⟨rfl, v8, HEND.out.2⟩)
                | true => exact absurd ⟨rfl, rfl⟩ hnd
      · rw [if_pos hc] at hR
        have := HRN.out
        omega

end Go.Proofs.Ytocankfabgjjmaa
