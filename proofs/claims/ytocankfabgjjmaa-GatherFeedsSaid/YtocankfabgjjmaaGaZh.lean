/-
  An assembly of the document's on its way: its box, and its row of segments.
  Conditions: none but sizes.
-/
import Derived.Test.YtocankfabgjjmaaGaZd
import Derived.Test.YtocankfabgjjmaaGaY
import Derived.Test.YtocankfabgjjmaaGaZf
import Derived.StillTailTactics
import Derived.Laws.Concat
namespace Go.Proofs.Ytocankfabgjjmaa
open Go.RowKit
set_option linter.unusedVariables false
set_option linter.unusedSimpArgs false

/-- The box is new at the end of w9. -/
structure AsmR (w9 : World) (ch k : Nat) (s : Value) (A : List Sg) (W : World) : Prop where
  box : BoxA W w9.heap.size ch k s
  own : OwnG sgC 46 W (w9.heap.size + 1) s A
  bel : Below w9.heap.size w9 W

section
variable {w9 W W1 w8 : World} {ch k : Nat} {s u : Value} {A A' : List Sg}
theorem AsmR.size (r : AsmR w9 ch k s A W) : w9.heap.size < W.heap.size := r.box.lt
theorem AsmR.keep (r : AsmR w9 ch k s A W) (hb : Below W.heap.size W W1) : AsmR w9 ch k s A W1 :=
  ⟨r.box.kept hb (Nat.le_refl _), r.own.below hb (Nat.le_refl _), r.bel.trans (hb.mono (Nat.le_of_lt r.size))⟩
/-- A segment more. -/
theorem AsmR.seg (r : AsmR w9 ch k s A W) (ho : OwnG sgC 46 w8 (w9.heap.size + 1) u A') (hg : W.grownBy w8 s.ownBlock) :
    BoxA w8 w9.heap.size ch k s ∧ AsmR w9 ch k u A' (w8.setCell ⟨w9.heap.size, 2, none⟩ u) := by
  have hsz := r.size
  have hbx : BoxA w8 w9.heap.size ch k s := (hg.block _ hsz (fun e => by have := (r.own.block _ e.symm).1; omega)).trans r.box
  refine ⟨hbx, hbx.set2 u, ho.keep fun g hg' => heap_setCell_other _ _ _ _ (by show g ≠ w9.heap.size; have := (ho.block g hg').1; omega), ?_⟩
  refine below_set (r.bel.grown hg (by omega) fun j hj => ?_) (Nat.le_refl _) _
  have := (r.own.block j hj).1
  omega
end

/-- What is left of a row without those at one place. -/
def restQ (L : List Fr) (q : Plc) : List Fr := L.filter fun x => decide (x.plc ≠ q)
theorem rest_snoc (L : List Fr) (q : Plc) (j : Nat) (hj : j < L.length) : restQ (L.take (j + 1)) q = restQ (L.take j) q ++ (if L[j].plc = q then [] else [L[j]]) := by
  rw [List.take_succ_eq_append_getElem hj]
  unfold restQ
  rw [List.filter_append]
  congr 1
  by_cases h : L[j].plc = q <;> simp [h]
theorem rest_le (L : List Fr) (q : Plc) (j : Nat) : (restQ (L.take j) q).length ≤ j :=
  Nat.le_trans (List.length_filter_le _ _) (by rw [List.length_take]; omega)
theorem str_sum (a b : ByteArray) : str8 (sb a ++ sb b) = a ++ b := by
  cases a; cases b
  simp [str8, sb, ByteArray.append_eq]
  rfl
theorem step_true (A : List Sg) (f : Fr) (hc : f.c = true) : stepQ A f = A ++ [⟨f.t, (⟨#[]⟩ : ByteArray) ++ f.p⟩] := by
  unfold stepQ
  rw [if_pos hc]
  have : (⟨#[]⟩ : ByteArray) ++ f.p = f.p := by rw [← str_sum]; simp [sb]; exact str8_sb f.p
  rw [this]
theorem step_false (D : List Sg) (t : Nat) (q : ByteArray) (f : Fr) (hc : f.c = false) : stepQ (D ++ [⟨t, q⟩]) f = D ++ [⟨t, q ++ f.p⟩] := by
  unfold stepQ
  rw [if_neg (by simp [hc])]
  simp [str_sum]
theorem AsmR.drew {w9 W : World} {ch k : Nat} {s : Value} {A : List Sg} (r : AsmR w9 ch k s A W) : AsmR w9 ch k s A W.drew := r.keep (Below.refl _ _).drew
theorem AsmR.payNew {w9 W : World} {ch k t : Nat} {s : Value} {D : List Sg} {q : ByteArray} (r : AsmR w9 ch k s (D ++ [⟨t, q⟩]) W) (y : ByteArray) : ∃ b c, s = .slice (some ⟨b, 0, none⟩) (D.length + 1) c ∧ b < W.heap.size ∧ w9.heap.size < b ∧ (∀ j, W.frozen? ⟨b, j, none⟩ = false) ∧
    W.cell? ⟨b, D.length * 2 + 1, none⟩ = some (.string q) ∧ AsmR w9 ch k s (D ++ [⟨t, y⟩]) (W.setCell ⟨b, D.length * 2 + 1, none⟩ (.string y)) := by
  obtain ⟨A0, c, hs, _, _⟩ := r.own.form
  have hl : (D ++ [⟨t, q⟩] : List Sg).length = D.length + 1 := by simp
  subst hs
  obtain ⟨b, rfl, h1, h2, h3, h4⟩ := r.own.at_ (by omega)
  refine ⟨b, c, by rw [hl], h2, by omega, h3, ?_, ?_, ?_, ?_⟩
  · have := h4 D.length (by omega) 1 (by decide)
    simpa [sgC] using this
  · exact (heap_setCell_other _ _ _ _ (by show w9.heap.size ≠ b; omega)).trans r.box
  · have := r.own.set_ D.length 1 (by omega) (by decide) ⟨t, y⟩ (.string y) (by simp [sgC])
    have e : (D ++ [⟨t, q⟩] : List Sg).set D.length ⟨t, y⟩ = D ++ [⟨t, y⟩] := by simp
    rw [e] at this
    exact this
  · exact below_set r.bel (by show w9.heap.size ≤ b; omega) _
theorem segs_len : ∀ (l : List Fr) (A : List Sg), (l.foldl stepQ A).length ≤ A.length + l.length
  | [], A => by simp
  | f :: l, A => by
    have := segs_len l (stepQ A f)
    have h2 : (stepQ A f).length ≤ A.length + 1 := by
      unfold stepQ
      split
      · simp
      · split
        · simp
        · simp
    simp only [List.foldl_cons, List.length_cons]
    omega
theorem segs_pay : ∀ (l : List Fr) (n : Nat) (A : List Sg), (∀ x ∈ A, x.p.size ≤ n) → ∀ x ∈ l.foldl stepQ A, x.p.size ≤ n + payQ l
  | [], n, A, h, x, hx => by simpa [payQ] using h x hx
  | f :: l, n, A, h, x, hx => by
    have := segs_pay l (n + f.p.size) (stepQ A f) (fun y hy => by
      unfold stepQ at hy
      split at hy
      · rcases List.mem_append.1 hy with hy | hy
        · have := h y hy; omega
        · simp only [List.mem_singleton] at hy
          subst hy
          show f.p.size ≤ _
          omega
      · split at hy
        · cases hy
        · rename_i s hs
          have hm : s ∈ A := List.mem_of_getLast? hs
          rcases List.mem_append.1 hy with hy | hy
          · have := h y (List.dropLast_subset _ hy); omega
          · simp only [List.mem_singleton] at hy
            subst hy
            show (str8 (sb s.p ++ sb f.p)).size ≤ _
            rw [str8_size, List.length_append, sb_length, sb_length]
            have := h s hm
            omega) x hx
    simp only [payQ]
    omega

end Go.Proofs.Ytocankfabgjjmaa
namespace Go.Proofs.Ytocankfabgjjmaa
open Go.RowKit
set_option linter.unusedVariables false
set_option linter.unusedSimpArgs false

/-- What a frame leaves that completes an assembly. -/
def FeedWhole (w : World) (gb B : Nat) (v : Value) (L : List Fr) (f : Fr) (e : Ending) (w' : World) : Prop :=
  ∃ v' vs, e = .returned (ansV ⟨f.ch, f.k, segsQ (atQ L f.plc ++ [f]), true, 0⟩ vs) ∧ OwnG sgC 46 w' w.heap.size vs (segsQ (atQ L f.plc ++ [f])) ∧
    w'.heap[gb]? = some (.cells #[v', .bool false] 27 (0, 0)) ∧ OwnG frC 30 w' B v' (L.filter fun x => decide (x.plc ≠ f.plc)) ∧ (∀ k, v'.ownBlock = some k → w.heap.size ≤ k) ∧ Moved (fun k => k = gb ∨ v.ownBlock = some k) w w'
/-- A row of the call's own stays as it is when the gatherer's row grows. -/
theorem row_kept {w V V8 : World} {B B' : Nat} {v m : Value} {L M : List Fr} {o : Obj} (hM : OwnG frC 30 V B' m M) (hB' : w.heap.size ≤ B') (hO : OwnG frC 30 w B v L)
    (h8 : (V.alloc o).drew.grownBy V8 v.ownBlock) : OwnG frC 30 V8 B' m M := by
  have hA : Below V.heap.size V (V.alloc o).drew := (f_below_box V o).drew
  have hMv : Moved (fun k => v.ownBlock = some k) (V.alloc o).drew V8 := Moved.of_grown h8 fun _ h => h
  refine hM.keep fun g hg => ?_
  have h1 := hM.block g hg
  exact (hMv.block g (Nat.lt_of_lt_of_le h1.2 hA.size) fun e => by have := (hO.block g e).2; omega).trans (hA.block g h1.2)
theorem on_store' {w W : World} {f : Fr} {gb B : Nat} {v u u' : Value} {L : List Fr} (h : Z4 w W f gb v u) (ho : OwnG frC 30 W B u' L) (hgB : gb < B) (hgl : gb < w.heap.size) :
    Z4 w (W.setCell ⟨gb, 0, none⟩ u') f gb v u' ∧ OwnG frC 30 (W.setCell ⟨gb, 0, none⟩ u') B u' L :=
  ⟨h.set hgl, ho.keep fun g hg => by
    have hn : g ≠ gb := by have := (ho.block g hg).1; omega
    exact heap_setCell_other _ _ _ _ hn⟩
/-- Ahead of the loop that joins the segments: all that lies below, and the answer's box. -/
structure Z7 (w W : World) (f : Fr) (gb B : Nat) (v u m : Value) (L M : List Fr) : Prop where
  fr : BoxF W w.heap.size f
  r1 : BoxA W (w.heap.size + 1) 0 0 (.slice none 0 0)
  g : W.heap[gb]? = some (.cells #[u, .bool false] 27 (0, 0))
  mv : Moved (fun k => k = gb ∨ v.ownBlock = some k) w W
  ol : OwnG frC 30 W B u L
  om : OwnG frC 30 W (w.heap.size + 1 + 1 + 1) m M
theorem Z7.of {w W W9 : World} {f : Fr} {gb B : Nat} {v u m m' : Value} {L M M' : List Fr} {o : Obj} (h : Z4 w W f gb v u) (ho : OwnG frC 30 W B u L) (hgl : gb < w.heap.size) (hm : OwnG frC 30 W (w.heap.size + 1 + 1 + 1) m M)
    (hne : ∀ g, m.ownBlock = some g → u.ownBlock ≠ some g) (h9 : (W.alloc o).grownBy W9 m.ownBlock) (hm' : OwnG frC 30 W9 (w.heap.size + 1 + 1 + 1) m' M') : Z7 w W9 f gb B v u m' L M' := by
  have hA : Below W.heap.size W (W.alloc o) := f_below_box W o
  have hMv : Moved (fun k => m.ownBlock = some k) (W.alloc o) W9 := Moved.of_grown h9 fun _ h => h
  have hsz : W.heap.size ≤ (W.alloc o).heap.size := hA.size
  have hlt := h.r2.lt
  have hbk : ∀ k, m.ownBlock = some k → w.heap.size + 1 + 1 + 1 ≤ k := fun k hk => (hm.block k hk).1
  have hkeep : ∀ k, k < W.heap.size → ¬ m.ownBlock = some k → W9.heap[k]? = W.heap[k]? := fun k hk hn => (hMv.block k (by omega) hn).trans (hA.block k hk)
  refine ⟨(hkeep _ (by omega) fun e => by have := hbk _ e; omega).trans h.fr, (hkeep _ (by omega) fun e => by have := hbk _ e; omega).trans h.r1, (hkeep _ (by omega) fun e => by have := hbk _ e; omega).trans h.g, ?_, ho.keep fun g hg => hkeep g (ho.block g hg).2 fun e => hne g e hg, hm'⟩
  exact (h.mv.trans (Moved.of_below hA) (fun k _ hk => hk)).trans hMv fun k hk e => by have := hbk _ e; omega
theorem Z7.kept {w W W' : World} {f : Fr} {gb B : Nat} {v u m : Value} {L M : List Fr} (h : Z7 w W f gb B v u m L M) (hgl : gb < w.heap.size) (hs : w.heap.size + 1 < W.heap.size) {nb : Nat} (hn : W.heap.size ≤ nb) (hM : Moved (fun k => k = nb) W W') : Z7 w W' f gb B v u m L M := by
  have hk : ∀ k, k < W.heap.size → W'.heap[k]? = W.heap[k]? := fun k hk => hM.block k hk (by omega)
  exact ⟨(hk _ (by omega)).trans h.fr, (hk _ (by omega)).trans h.r1, (hk _ (by omega)).trans h.g, h.mv.trans hM fun k hk e => by omega, h.ol.keep fun g hg => hk g (h.ol.block g hg).2, h.om.keep fun g hg => hk g (h.om.block g hg).2⟩
theorem row_stored {W : World} {gb B' : Nat} {u m : Value} {M : List Fr} (hM : OwnG frC 30 W B' m M) (hgB : gb < B') : OwnG frC 30 (W.setCell ⟨gb, 0, none⟩ u) B' m M :=
  hM.keep fun g hg => by
    have hn : g ≠ gb := by have := (hM.block g hg).1; omega
    exact heap_setCell_other _ _ _ _ hn

/-- What the call leaves at its end. -/
theorem whole_end {w w9 wr wz : World} {f : Fr} {gb B : Nat} {v v8 m s v' : Value} {L8 M9 R : List Fr} {A : List Sg} (h7 : Z7 w w9 f gb B v v8 m L8 M9) (hA : AsmR w9 f.ch f.k s A wr) (hb : Below wr.heap.size wr wz) (ho : OwnG frC 30 wz wr.heap.size v' R) (hgB : gb < B) (hBw : B ≤ w.heap.size) :
    BoxA ((((wz.setCell ⟨gb, 0, none⟩ v').setCell ⟨w.heap.size + 1, 0, none⟩ (.int .u16 f.ch)).setCell ⟨w.heap.size + 1, 1, none⟩ (.int .u8 f.k)).setCell ⟨w.heap.size + 1, 2, none⟩ s) (w.heap.size + 1) f.ch f.k s ∧
    OwnG sgC 46 ((((wz.setCell ⟨gb, 0, none⟩ v').setCell ⟨w.heap.size + 1, 0, none⟩ (.int .u16 f.ch)).setCell ⟨w.heap.size + 1, 1, none⟩ (.int .u8 f.k)).setCell ⟨w.heap.size + 1, 2, none⟩ s) w.heap.size s A ∧
    ((((wz.setCell ⟨gb, 0, none⟩ v').setCell ⟨w.heap.size + 1, 0, none⟩ (.int .u16 f.ch)).setCell ⟨w.heap.size + 1, 1, none⟩ (.int .u8 f.k)).setCell ⟨w.heap.size + 1, 2, none⟩ s).heap[gb]? = some (.cells #[v', .bool false] 27 (0, 0)) ∧
    OwnG frC 30 ((((wz.setCell ⟨gb, 0, none⟩ v').setCell ⟨w.heap.size + 1, 0, none⟩ (.int .u16 f.ch)).setCell ⟨w.heap.size + 1, 1, none⟩ (.int .u8 f.k)).setCell ⟨w.heap.size + 1, 2, none⟩ s) B v' R ∧
    (∀ k, v'.ownBlock = some k → w.heap.size ≤ k) ∧
    Moved (fun k => k = gb ∨ v.ownBlock = some k) w ((((wz.setCell ⟨gb, 0, none⟩ v').setCell ⟨w.heap.size + 1, 0, none⟩ (.int .u16 f.ch)).setCell ⟨w.heap.size + 1, 1, none⟩ (.int .u8 f.k)).setCell ⟨w.heap.size + 1, 2, none⟩ s) := by
  have h1 : w.heap.size + 1 < w9.heap.size := h7.r1.lt
  have h2 := hA.size
  have hbz : Below w9.heap.size w9 wz := hA.bel.trans (hb.mono (Nat.le_of_lt h2))
  have hother : ∀ k, k ≠ gb → k ≠ w.heap.size + 1 → ((((wz.setCell ⟨gb, 0, none⟩ v').setCell ⟨w.heap.size + 1, 0, none⟩ (.int .u16 f.ch)).setCell ⟨w.heap.size + 1, 1, none⟩ (.int .u8 f.k)).setCell ⟨w.heap.size + 1, 2, none⟩ s).heap[k]? = wz.heap[k]? := fun k hg hw => by
    rw [heap_setCell_other _ _ _ _ (by show k ≠ w.heap.size + 1; exact hw), heap_setCell_other _ _ _ _ (by show k ≠ w.heap.size + 1; exact hw), heap_setCell_other _ _ _ _ (by show k ≠ w.heap.size + 1; exact hw), heap_setCell_other _ _ _ _ (by show k ≠ gb; exact hg)]
  have hgz : wz.heap[gb]? = some (.cells #[v8, .bool false] 27 (0, 0)) := (hbz.block gb (by omega)).trans h7.g
  have hg1 : (wz.setCell ⟨gb, 0, none⟩ v').heap[gb]? = some (.cells #[v', .bool false] 27 (0, 0)) := heap_setCell_same _ _ 0 _ 27 v' hgz
  have hr : BoxA (wz.setCell ⟨gb, 0, none⟩ v') (w.heap.size + 1) 0 0 (.slice none 0 0) := (heap_setCell_other _ _ _ _ (by show w.heap.size + 1 ≠ gb; omega)).trans ((hbz.block _ h1).trans h7.r1)
  refine ⟨hr.setAll f.ch f.k s, ?_, ?_, ?_, fun k hk => by have := (ho.block k hk).1; omega, ?_⟩
  · exact ((hA.own.below hb (Nat.le_refl _)).keep fun g hg => by
      have := (hA.own.block g hg).1
      exact hother g (by omega) (by omega)).mono (by omega)
  · rw [heap_setCell_other _ _ _ _ (by show gb ≠ w.heap.size + 1; omega), heap_setCell_other _ _ _ _ (by show gb ≠ w.heap.size + 1; omega), heap_setCell_other _ _ _ _ (by show gb ≠ w.heap.size + 1; omega)]
    exact hg1
  · exact (ho.keep fun g hg => by
      have := (ho.block g hg).1
      exact hother g (by omega) (by omega)).mono (by omega)
  · have hm : Moved (fun k => k = gb ∨ v.ownBlock = some k) w wz := h7.mv.trans (Moved.of_below (F := fun _ => False) hbz) (fun _ _ h => h.elim)
    exact (((hm.setCell (fun _ => .inl rfl) 0 v').setCell (fun h => absurd h (by show ¬ w.heap.size + 1 < w.heap.size; omega)) 0 _).setCell (fun h => absurd h (by show ¬ w.heap.size + 1 < w.heap.size; omega)) 1 _).setCell (fun h => absurd h (by show ¬ w.heap.size + 1 < w.heap.size; omega)) 2 _
set_option maxRecDepth 100000 in
set_option maxHeartbeats 8000000 in
theorem qfeed_whole (f : Fr) (gb N c B : Nat) (A : Option Addr) (L : List Fr) (w : World) (hg : w.heap[gb]? = some (.cells #[.slice A N c, .bool false] 27 (0, 0))) (h : OwnG frC 30 w B (.slice A N c) L) (hgB : gb < B) (hBw : B ≤ w.heap.size) (hl : L.length ≤ 1099511627776) (hz : ∀ x ∈ L, x.p.size ≤ 4084) (hf : f.p.size ≤ 140737488351232) (hr : refusedQ (atQ L f.plc) f = 0) (hfb : f.b = true) (hfd : f.d = true)
    (hsg : ∀ j (hj : j < (atQ L f.plc ++ [f]).length), (atQ L f.plc ++ [f])[j].c = false → 0 < (segsQ ((atQ L f.plc ++ [f]).take j)).length) (hpay : payQ (atQ L f.plc ++ [f]) ≤ 16384) :
    Calls Try.prog 8 #[.pointer (some ⟨gb, 0, none⟩), .agg f.vs.toArray] w (FeedWhole w gb B (.slice A N c) L f) := by
  unfold FeedWhole
  obtain ⟨d, _, hsh⟩ := h.shows
  have HOW := Lib.hid h
  have HGB := Lib.hid (And.intro hgB hBw)
  have HBD := Lib.hid (And.intro hfb hfd)
  have HSG := Lib.hid hsg
  have HPY := Lib.hid hpay
  have hgl : gb < w.heap.size := (Array.getElem?_eq_some_iff.1 hg).1
  obtain ⟨hZ, hzs⟩ := Z3.of w f
  have hML : (atQ L f.plc).length ≤ L.length := List.length_filter_le _ _
  have hMz : ∀ x ∈ atQ L f.plc, x.p.size ≤ 4084 := fun x hx => hz x (List.mem_filter.1 hx).1
  have hGW := (hZ.bel.block gb hgl).trans hg
  have hSW := hsh.below' hZ.bel (Nat.le_refl _)
  have HOP := Lib.hid (qgopen_any gb N c d A false L f (z3 w f) hGW hSW hl)
  have HCK := Lib.hid (fun w' => qfcheck_any f w' hf)
  have HFI := Lib.hid (fun (A' : Option Addr) (n' c' d' : Nat) w' (hs : ShowsG frC w' d' (.slice A' n' c') (atQ L f.plc)) => qgfits_any A' n' c' d' (atQ L f.plc) f w' hs (by omega))
  generalize hM : atQ L f.plc = M at *
  generalize hR : refusedQ M f = R at *
  unfold refusedQ at hR
  have HRF := Lib.hid hR
  have HMZ := Lib.hid hMz
  have HRN := Lib.hid hr
  have c1 : (z3 w f).cell? ⟨gb, 1, none⟩ = some (.bool false) := by rw [cell_of_row _ gb _ _ 27 (0, 0) hGW]; rfl
  have HGW := Lib.hid hGW
  clear hM hR hMz hr hg h hsh hSW hGW hz hgB hBw hfb hfd hsg hpay
  obtain ⟨fa, fb, fc, fd, ft, fk, fch, fp⟩ := f
  simp only [Fr.vs] at *
  unfold z3 at *
  dsimp only at *
  generalize hW : ((w.alloc (Obj.cells #[.bool fa, .bool fb, .bool fc, .bool fd, .int .u8 ft, .int .u8 fk, .int .u16 fch, .string fp] 30)).alloc (Obj.cells #[.int .u16 0, .int .u8 0, .slice none 0 0] 34)).alloc (Obj.cells #[.int .u16 0, .int .u8 0, .slice none 0 0] 34) = W at *
  have HW := Lib.hid hW
  have x0 := hZ.fr.c0
  have x1 := hZ.fr.c1
  have x2 := hZ.fr.c2
  have x3 := hZ.fr.c3
  have x4 := hZ.fr.c4
  have x5 := hZ.fr.c5
  have x6 := hZ.fr.c6
  have x7 := hZ.fr.c7
  have HZ := Lib.hid hZ
  have HZS := Lib.hid hzs
  clear hW hzs hZ
  dsimp only at x0 x1 x2 x3 x4 x5 x6 x7
  go_enter Try.func8, Try.ntmps8
  go_upto_region 2 with fail
  rw [HW.out]
  go_wp2_with fail
  refine HOP.out.mono ?_
  rintro e w1 ⟨v8, rfl, ho8, hb8⟩
  clear x0 x1 x2 x3 x4 x5 x6 x7 c1
  obtain ⟨A8, c8, hv8, hc8, _⟩ := ho8.form
  subst hv8
  obtain ⟨g8, hg8, hs8⟩ := ho8.shows
  have hzs := HZS.out
  have hb3 : Below (w.heap.size + 1 + 1 + 1) W w1 := by rw [← hzs]; exact hb8
  have hZ1 := HZ.out.later HZS.out hb3
  have x0 := hZ1.fr.c0
  have x7 := hZ1.fr.c7
  dsimp only at x0 x7
  have HS8 := Lib.hid hs8
  have HO8 := Lib.hid (show OwnG frC 30 w1 (w.heap.size + 1 + 1 + 1) (.slice A8 M.length c8) M from ho8.mono (by omega))
  have HZ1 := Lib.hid hZ1
  have HB8 := Lib.hid hb3
  have HC8 := Lib.hid hc8
  clear hb8 ho8 hb3 hZ1 hs8 hzs hc8
  go_wp2_with fail
  have HGV := Lib.hid (fun V (hb : Below (w.heap.size + 1 + 1 + 1) W V) => show V.cell? ⟨gb, 0, none⟩ = some (.slice A N c) ∧ V.cell? ⟨gb, 1, none⟩ = some (.bool false) ∧ V.frozen? ⟨gb, 0, none⟩ = false ∧ V.frozen? ⟨gb, 1, none⟩ = false by
    have hgV := (hb.block gb (by omega)).trans HGW.out
    exact ⟨by rw [cell_of_row _ gb _ _ 27 (0, 0) hgV]; rfl, by rw [cell_of_row _ gb _ _ 27 (0, 0) hgV]; rfl, frozen_of_row _ gb 0 _ 27 hgV, frozen_of_row _ gb 1 _ 27 hgV⟩)
  have HML := Lib.hid (And.intro hML hl)
  have HF := Lib.hid hf
  clear x0 x7 hML hl hf
  go_loopw [9, 10] (fun n i wr => ∃ j S : Nat, j ≤ M.length ∧ i = .int .i64 j ∧ n = .int .i64 S ∧ Hid (S = fp.size + payQ (M.take j)) ∧ wr = w1) (fun _ i _ => M.length - (intOf i).toNat)
  case atStart => exact ⟨0, fp.size, Nat.zero_le _, rfl, rfl, Lib.hid (by simp [payQ]), rfl⟩
  case round =>
    obtain ⟨j, S, hj, rfl, rfl, HS, rfl⟩ := hrel
    by_cases hlt : j < M.length
    · have hjl : (j : Int) < (M.length : Int) := by omega
      obtain ⟨o, rfl, hd, hcl⟩ := HS8.out.at_ (by omega)
      have x7 := (fr_cell hcl hlt).2.2.2.2.2.2.2
      have hps := HMZ.out _ (List.getElem_mem hlt)
      have hsum := payQ_snoc M j hlt
      have hbd := payQ_le (M := M.take j) fun x hx => HMZ.out x (List.mem_of_mem_take hx)
      rw [List.length_take] at hbd
      generalize M[j].p = P0 at *
      obtain ⟨T, hT⟩ : ∃ T, T = S + P0.size := ⟨_, rfl⟩
      have hTT : T = fp.size + payQ (M.take (j + 1)) := by rw [hT, hsum, HS.out]; omega
      have HTT := Lib.hid hTT
      have WV := Lib.hid (show wrap64 ((S : Int) + (P0.size : Int)) = (T : Int) ∧ IntKind.i64.wrap ((S : Int) + (P0.size : Int)) = (T : Int) by
        have h1 := HF.out
        have h2 := HML.out
        have h3 := HS.out
        rw [show (S : Int) + (P0.size : Int) = (T : Int) by omega]
        exact ⟨w64_id _ (by omega) (by omega), i64_id _ (by omega) (by omega)⟩)
      have hjb : j ≤ 1099511627776 := by have := HML.out; omega
      obtain ⟨e1, e2⟩ := WV.out
      have HT := Lib.hid hT
      clear hcl hd hps hsum hbd hT hTT
      go_wp2_with fail
      go_roundw
      case rel => exact ⟨j + 1, T, by omega, by go_num, by first | rfl | (rw [show (S : Int) + (P0.size : Int) = (T : Int) by have := HT.out; omega]), HTT, by first | rfl | trivial⟩
      case measure => simp [intOf]; omega
    · have hjn : ¬ (j : Int) < (M.length : Int) := by omega
      have e : M.take j = M := List.take_of_length_le (by omega)
      rw [e] at HS
      clear e
      have x0 := HZ1.out.fr.c0
      have x1 := HZ1.out.fr.c1
      have x2 := HZ1.out.fr.c2
      have x3 := HZ1.out.fr.c3
      have x4 := HZ1.out.fr.c4
      have x5 := HZ1.out.fr.c5
      have x6 := HZ1.out.fr.c6
      have x7 := HZ1.out.fr.c7
      dsimp only at x0 x1 x2 x3 x4 x5 x6 x7
      have hR := HRF.out
      by_cases hc : checkF ⟨fa, fb, fc, fd, ft, fk, fch, fp⟩ = 0
      · have HCK1 := Lib.hid (fun w' => (HCK.out w'))
        rw [hc] at HCK1
        rw [if_neg (fun e => e hc)] at hR
        by_cases hft : fitsQ M ⟨fa, fb, fc, fd, ft, fk, fch, fp⟩ = false
        · rw [if_pos hft] at hR
          have := HRN.out
          omega
        · rw [if_neg hft] at hR
          have hft2 : fitsQ M ⟨fa, fb, fc, fd, ft, fk, fch, fp⟩ = true := by simpa using hft
          rw [hft2] at HFI
          by_cases hS : 16384 < fp.size + payQ M
          · rw [if_pos hS] at hR
            have := HRN.out
            omega
          · have hS2 : ¬ (16384 : Int) < (S : Int) := by have := HS.out; omega
            clear hR hc hft hft2 HCK hS
            go_wp2_with fail
            refine (HCK1.out _).mono ?_
            rintro e V1 ⟨rfl, hbV1⟩
            have HBV1 := Lib.hid (HB8.out.trans (hbV1.mono (by have h1 := HB8.out.size; have h2 := HZS.out; omega)))
            have hsV1 := HS8.out.below' hbV1 (Nat.le_refl _)
            have HOV1 := Lib.hid (HO8.out.below hbV1 (Nat.le_refl _))
            have hZV1 := HZ.out.later HZS.out HBV1.out
            clear x0 x1 x2 x3 x4 x5 x6 x7 hbV1
            have x0 := hZV1.fr.c0
            have x1 := hZV1.fr.c1
            have x2 := hZV1.fr.c2
            have x3 := hZV1.fr.c3
            have x4 := hZV1.fr.c4
            have x5 := hZV1.fr.c5
            have x6 := hZV1.fr.c6
            have x7 := hZV1.fr.c7
            dsimp only at x0 x1 x2 x3 x4 x5 x6 x7
            have HFI1 := Lib.hid (HFI.out A8 M.length c8 g8 V1 hsV1)
            clear hsV1 hZV1 HFI
            go_wp2_with fail
            refine HFI1.out.mono ?_
            rintro e V ⟨rfl, hbV⟩
            have HBV := Lib.hid (HBV1.out.trans (hbV.mono (by have h1 := HBV1.out.size; have h2 := HZS.out; omega)))
            have HOV := Lib.hid (HOV1.out.below hbV (Nat.le_refl _))
            clear x0 x1 x2 x3 x4 x5 x6 x7 hbV
            go_upto_region 19 with fail
            have hZV := HZ.out.later HZS.out HBV.out
            have hsV : w.heap.size + 1 + 1 + 1 ≤ V.heap.size := by have h1 := HBV.out.size; have h2 := HZS.out; omega
            have hgV := (HBV.out.block gb (by omega)).trans HGW.out
            have hoV : OwnG frC 30 V B (.slice A N c) L := HOW.out.below hZV.bel (Nat.le_refl _)
            obtain ⟨hN, _, _⟩ := hoV.len_
            have hoA := hoV.alloc_ (Obj.cells #[.bool fa, .bool fb, .bool fc, .bool fd, .int .u8 ft, .int .u8 fk, .int .u16 fch, .string fp] 30)
            have hoD : OwnG frC 30 (V.alloc (Obj.cells #[.bool fa, .bool fb, .bool fc, .bool fd, .int .u8 ft, .int .u8 fk, .int .u16 fch, .string fp] 30)).drew B (.slice A N c) L := hoA
            have HZ4 := Lib.hid (fun V8 (h8 : (V.alloc (Obj.cells #[.bool fa, .bool fb, .bool fc, .bool fd, .int .u8 ft, .int .u8 fk, .int .u16 fch, .string fp] 30)).drew.grownBy V8 (Value.slice A N c).ownBlock) => Z4.of (gb := gb) hZV hsV HOW.out HGB.out.1 HGB.out.2 hgV h8)
            have hHA : (V.alloc (Obj.cells #[.bool fa, .bool fb, .bool fc, .bool fd, .int .u8 ft, .int .u8 fk, .int .u16 fch, .string fp] 30)).drew.heap[gb]? = some (.cells #[.slice A N c, .bool false] 27 (0, 0)) := ((f_below_box V (Obj.cells #[.bool fa, .bool fb, .bool fc, .bool fd, .int .u8 ft, .int .u8 fk, .int .u16 fch, .string fp] 30)).block gb (by omega)).trans hgV
            have l0 : (V.alloc (Obj.cells #[.bool fa, .bool fb, .bool fc, .bool fd, .int .u8 ft, .int .u8 fk, .int .u16 fch, .string fp] 30)).cell? ⟨gb, 0, none⟩ = some (.slice A N c) := by
              have : (V.alloc (Obj.cells #[.bool fa, .bool fb, .bool fc, .bool fd, .int .u8 ft, .int .u8 fk, .int .u16 fch, .string fp] 30)).drew.cell? ⟨gb, 0, none⟩ = some (.slice A N c) := by rw [cell_of_row _ gb _ _ 27 (0, 0) hHA]; rfl
              exact this
            have u0 : V.cell? ⟨gb, 0, none⟩ = some (.slice A N c) := by rw [cell_of_row _ gb _ _ 27 (0, 0) hgV]; rfl
            have x0 := hZV.fr.c0
            have x1 := hZV.fr.c1
            have x2 := hZV.fr.c2
            have x3 := hZV.fr.c3
            have x4 := hZV.fr.c4
            have x5 := hZV.fr.c5
            have x6 := hZV.fr.c6
            have x7 := hZV.fr.c7
            dsimp only at x0 x1 x2 x3 x4 x5 x6 x7
            have hLb := HML.out
            have hBb := HGB.out
            clear hoA hoV hHA hZV
            have hrV : OwnG frC 30 V (w.heap.size + 1 + 1 + 1) (.slice A8 M.length c8) M := HOV.out
            have HRK := Lib.hid (fun V8 (h8 : (V.alloc (Obj.cells #[.bool fa, .bool fb, .bool fc, .bool fd, .int .u8 ft, .int .u8 fk, .int .u16 fch, .string fp] 30)).drew.grownBy V8 (Value.slice A N c).ownBlock) => row_kept (o := (Obj.cells #[.bool fa, .bool fb, .bool fc, .bool fd, .int .u8 ft, .int .u8 fk, .int .u16 fch, .string fp] 30)) hrV (by omega) HOW.out h8)
            clear hrV
            go_cut [76] from 68 to 77 (fun z wx => ∃ v8, Z4 w wx ⟨fa, fb, fc, fd, ft, fk, fch, fp⟩ gb (.slice A N c) v8 ∧ OwnG frC 30 wx B v8 (L ++ [⟨fa, fb, fc, fd, ft, fk, fch, fp⟩]) ∧ (v8.ownBlock = (Value.slice A N c).ownBlock ∨ ∃ k, v8.ownBlock = some k ∧ w.heap.size + 1 + 1 + 1 ≤ k) ∧ OwnG frC 30 wx (w.heap.size + 1 + 1 + 1) (.slice A8 M.length c8) M ∧ ∀ g, (Value.slice A8 M.length c8).ownBlock = some g → v8.ownBlock ≠ some g)
            case first =>
              go_region_law ((refine step_appendGW frC _ rfl (.tmp 72) (.tmp 74) 22 rfl B 30 (.agg #[.bool false, .bool false, .bool false, .bool false, .int .u8 0, .int .u8 0, .int .u16 0, .string ⟨#[]⟩]) 24 Try.underlying22 infoFr rfl (.slice A N c) L rfl hoD V.heap.size (.slice (some ⟨V.heap.size, 0, none⟩) 1 1) [⟨fa, fb, fc, fd, ft, fk, fch, fp⟩] rfl (ShowsG.lit (C := frC) [⟨fa, fb, fc, fd, ft, fk, fch, fp⟩] (by simp [Code.all, frC, Fr.vs]) (by simp [maxLen])) (by simp) (by simp; omega) (by simp; omega) (by simp; omega) ?_
                              intro v8 w8 ho8 hg8 hwh8
                              obtain ⟨A9, n9, c9, rfl⟩ : ∃ A n c, v8 = .slice A n c := by
                                obtain ⟨A, c, e, _⟩ := ho8.form
                                exact ⟨_, _, _, e⟩
                              have hz8 := HZ4.out w8 hg8
                              have hr8 := HRK.out w8 hg8
                              have f8 : w8.frozen? ⟨gb, 0, none⟩ = false := frozen_of_row _ gb 0 _ 27 hz8.g
                              have q8 : w8.cell? ⟨gb, 0, none⟩ = some (.slice A N c) := by rw [cell_of_row _ gb _ _ 27 (0, 0) hz8.g]; rfl
                              have HQ := Lib.hid (And.intro hz8 (And.intro ho8 (And.intro hwh8 hr8)))
                              clear hz8 ho8 hwh8 hg8 hr8))
              all_goals
                go_wp2_with fail
                go_meet
                have hst := on_store' HQ.out.1 HQ.out.2.1 HGB.out.1 hgl
                have hva : V.heap.size + 1 = (V.alloc (Obj.cells #[.bool fa, .bool fb, .bool fc, .bool fd, .int .u8 ft, .int .u8 fk, .int .u16 fch, .string fp] 30)).heap.size := by rw [World.size_alloc]
                refine ⟨_, hst.1, hst.2, ?_, row_stored HQ.out.2.2.2 (by omega), fun g hg e => ?_⟩
                · rcases HQ.out.2.2.1 with h | h
                  · exact .inl h
                  · exact .inr ⟨_, h, by show w.heap.size + 1 + 1 + 1 ≤ (V.alloc (Obj.cells #[.bool fa, .bool fb, .bool fc, .bool fd, .int .u8 ft, .int .u8 fk, .int .u16 fch, .string fp] 30)).heap.size; omega⟩
                · have hb := HOV.out.block g hg
                  rcases HQ.out.2.2.1 with h | h
                  · have := (HOW.out.block g (by rw [← h]; exact e)).2
                    omega
                  · have h2 : g = (V.alloc (Obj.cells #[.bool fa, .bool fb, .bool fc, .bool fd, .int .u8 ft, .int .u8 fk, .int .u16 fch, .string fp] 30)).heap.size := by
                      rw [h] at e
                      injection e with e
                      exact e.symm
                    omega
            case rest =>
              obtain ⟨v8, hz8, ho8, hw8, hm8, hne8⟩ := hcut
              rename World => wx
              clear u0 l0 x0 x1 x2 x3 x4 x5 x6 x7 hoD hgV
              obtain ⟨hfb, hfd⟩ := HBD.out
              have x0 := hz8.fr.c0
              have x1 := hz8.fr.c1
              have x2 := hz8.fr.c2
              have x3 := hz8.fr.c3
              have x4 := hz8.fr.c4
              have x5 := hz8.fr.c5
              have x6 := hz8.fr.c6
              have x7 := hz8.fr.c7
              dsimp only at x0 x1 x2 x3 x4 x5 x6 x7 hfb hfd
              subst hfb hfd
              have hsx := hz8.r2.lt
              go_upto_region 22 with fail
              go_upto_region 23 with (at_builtin; refine wpList_appendG frC _ rfl (.tmp 87) (.tmp 89) 22 rfl (w.heap.size + 1 + 1 + 1) 30 (.agg #[.bool false, .bool false, .bool false, .bool false, .int .u8 0, .int .u8 0, .int .u16 0, .string ⟨#[]⟩]) 24 Try.underlying22 infoFr rfl _ M rfl (hm8.alloc_ _) wx.heap.size (.slice (some ⟨wx.heap.size, 0, none⟩) 1 1) [⟨fa, true, fc, true, ft, fk, fch, fp⟩] rfl (ShowsG.lit (C := frC) [⟨fa, true, fc, true, ft, fk, fch, fp⟩] (by simp [Code.all, frC, Fr.vs]) (by simp [maxLen])) (by simp; omega) (by simp; omega) (by simp; omega) ?_; intro v9 w9 ho9 hg9)
              have hz9 := Z7.of hz8 ho8 hgl hm8 hne8 hg9 ho9
              have hlen9 : (M ++ [⟨fa, true, fc, true, ft, fk, fch, fp⟩] : List Fr).length ≤ 1099511627777 := by simp; omega
              clear hz8 ho8 hm8 hne8 hg9
              generalize hM9 : (M ++ [⟨fa, true, fc, true, ft, fk, fch, fp⟩] : List Fr) = M9 at *
              have HM9 := Lib.hid hM9
              clear hM9
              obtain ⟨A9, c9, rfl, _, _⟩ := ho9.form
              obtain ⟨d9, _, hs9⟩ := ho9.shows
              have HS9 := Lib.hid hs9
              clear ho9 hs9 x0 x1 x2 x3 x4 x5 x6 x7
              have x5 := hz9.fr.c5
              have x6 := hz9.fr.c6
              dsimp only at x5 x6
              have HZ9 := Lib.hid hz9
              clear hz9
              go_upto_region 24 with fail
              have hA0 : AsmR w9 fch fk (.slice none 0 0) (segsQ (M9.take 0)) (w9.alloc (Obj.cells #[.int .u16 fch, .int .u8 fk, .slice none 0 0] 34)) := ⟨BoxA.new w9 fch fk _, by simpa [segsQ] using OwnG.nil_ _ _ _ _, f_below_box w9 _⟩
              generalize w9.alloc _ = WA at *
              have HA0 := Lib.hid hA0
              clear hA0 x5 x6
              go_wp2_with fail
              go_loopw [13] (fun ii wr => ∃ (j : Nat) (s : Value), ii = .int .i64 j ∧ j ≤ M9.length ∧ Hid (AsmR w9 fch fk s (segsQ (M9.take j)) wr)) (fun ii _ => M9.length - (intOf ii).toNat)
              case atStart => exact ⟨0, _, rfl, Nat.zero_le _, HA0⟩
              case round =>
                obtain ⟨j, s, rfl, hj, HA⟩ := hrel
                rename World => wr
                by_cases hlt : j < M9.length
                · have hjl : (j : Int) < (M9.length : Int) := by omega
                  have hs9 := HS9.out.below' HA.out.bel (Nat.le_refl _)
                  obtain ⟨o, rfl, hd, hcl⟩ := hs9.at_ (by omega)
                  obtain ⟨_, _, y2, _, y4, _, _, y7⟩ := fr_cell hcl hlt
                  have hst : segsQ (M9.take (j + 1)) = stepQ (segsQ (M9.take j)) M9[j] := by rw [List.take_succ_eq_append_getElem hlt, segsQ_snoc]
                  have hsz1 := segs_pay (M9.take j) 0 [] (fun x hx => absurd hx (by simp))
                  have hln1 := segs_len (M9.take j) []
                  have hpq : payQ (M9.take j) + M9[j].p.size ≤ 16384 := by
                    have h1 := HPY.out
                    have h2 := payQ_append (M9.take (j + 1)) (M9.drop (j + 1))
                    rw [List.take_append_drop] at h2
                    have h3 := payQ_snoc M9 j hlt
                    omega
                  have hsg := HSG.out j hlt
                  have hdlt := hd
                  change ∀ x ∈ segsQ (M9.take j), _ at hsz1
                  change (segsQ (M9.take j)).length ≤ _ at hln1
                  have hln2 : (segsQ (M9.take j)).length ≤ 1099511627777 := by
                    simp at hln1
                    omega
                  clear hln1
                  generalize M9[j] = F at *
                  obtain ⟨Fa, Fb, Fc, Fd, Ft, Fk, Fch, Fp⟩ := F
                  dsimp only at y2 y4 y7 hpq hsg
                  have HST := Lib.hid hst
                  have HSZ := Lib.hid hsz1
                  generalize segsQ (M9.take j) = SA at *
                  generalize hSBe : segsQ (M9.take (j + 1)) = SB at *
                  have HSBE := Lib.hid hSBe
                  clear hSBe
                  clear hst hsz1 hcl hs9
                  have hd9 : d9 < w9.heap.size := by
                    obtain ⟨_, _, h, _⟩ := HS9.out.at_ (by omega)
                    exact h
                  have hbL := HA.out.size
                  cases Fc with
                  | true =>
                    have hSB : SB = SA ++ [⟨Ft, (⟨#[]⟩ : ByteArray) ++ Fp⟩] := by rw [HST.out, step_true _ _ rfl]
                    obtain ⟨As, cs, rfl, _, _⟩ := HA.out.own.form
                    have hRl := (HA.out.keep (f_below_box wr (Obj.cells #[.int .u8 Ft, .string ⟨#[]⟩] 46))).drew
                    have u0 : wr.cell? ⟨w9.heap.size, 2, none⟩ = some (.slice As SA.length cs) := HA.out.box.c2
                    have l0 : (wr.alloc (Obj.cells #[.int .u8 Ft, .string ⟨#[]⟩] 46)).cell? ⟨w9.heap.size, 2, none⟩ = some (.slice As SA.length cs) := hRl.box.c2
                    go_upto_region 28 with fail
                    go_cut [116] from 107 to 117 (fun z wx => ∃ v8, AsmR w9 fch fk v8 (SA ++ [⟨Ft, ⟨#[]⟩⟩]) wx)
                    case first =>
                      go_region_law ((refine step_appendGW sgC _ rfl (.tmp 108) (.tmp 115) 32 rfl (w9.heap.size + 1) 46 (.agg #[.int .u8 0, .string ⟨#[]⟩]) 24 Try.underlying32 infoSg rfl (.slice As SA.length cs) SA rfl hRl.own wr.heap.size (.slice (some ⟨wr.heap.size, 0, none⟩) 1 1) [⟨Ft, ⟨#[]⟩⟩] rfl (ShowsG.lit (C := sgC) [⟨Ft, ⟨#[]⟩⟩] (by simp [Code.all, sgC]) (by simp [maxLen])) (by simp) (by simp; omega) (by simp; omega) (by simp; omega) ?_
                                      intro v8 w8 ho8 hg8 hwh8
                                      obtain ⟨A7, n7, c7, rfl⟩ : ∃ A n c, v8 = .slice A n c := by
                                        obtain ⟨A, c, e, _⟩ := ho8.form
                                        exact ⟨_, _, _, e⟩
                                      have hq := hRl.seg ho8 hg8
                                      have f8 := hq.1.fr 2
                                      have hq2 := Lib.hid hq.2
                                      have q8 := hq.1.c2
                                      clear hq ho8 hg8 hwh8))
                      all_goals
                        go_wp2_with fail
                        go_meet
                        exact ⟨_, hq2.out⟩
                    case rest =>
                      obtain ⟨v8, hA2⟩ := hcut
                      rename World => wx
                      clear u0 l0 hRl y2 y4
                      obtain ⟨q, hqe⟩ : ∃ q : ByteArray, q = ⟨#[]⟩ := ⟨_, rfl⟩
                      have hqs : q.size = 0 := by rw [hqe]; rfl
                      rw [← hqe] at hSB hA2
                      clear hqe
                      generalize SA = D at *
                      obtain ⟨b, cb, rfl, hblt, hbl, hfrz, hcell, hA3⟩ := hA2.drew.payNew (q ++ Fp)
                      rw [← hSB] at hA3
                      have HA3 := Lib.hid hA3
                      have x2 : wx.cell? ⟨w9.heap.size, 2, none⟩ = some (.slice (some ⟨b, 0, none⟩) (D.length + 1) cb) := by
                        have := hA2.box.c2
                        simpa using this
                      have x2d : wx.drew.cell? ⟨w9.heap.size, 2, none⟩ = some (.slice (some ⟨b, 0, none⟩) (D.length + 1) cb) := x2
                      have y7x : wx.drew.cell? ⟨d9, o + j * 8 + 7, none⟩ = some (.string Fp) := (World.cell?_of_block (w := wr) (w' := wx.drew) ((hA2.bel.block d9 hd9).trans (HA.out.bel.block d9 hd9).symm)).trans y7
                      have hsum : ¬ 9223372036854775807 < q.size + Fp.size := by omega
                      clear hA2 hA3 hSB y7 hqs hsg
                      go_upto_region 30 with fail
                      have hki : (D.length : Int) < ((D.length + 1 : Nat) : Int) := by omega
                      have hki2 : D.length < D.length + 1 := by omega
                      generalize D.length + 1 = N1 at *
                      go_still_tail 17, (by kernel_rfl)
                      change wpList _ _ _ _ _ wx.drew
                      generalize wx.drew = w5 at *
                      go_wp2_with fail
                      go_roundw
                      case rel => exact ⟨j + 1, _, by go_num, by omega, Lib.hid (by rw [HSBE.out]; exact HA3.out)⟩
                      case measure => simp [intOf]; omega
                  | false =>
                    obtain ⟨D, ⟨T, q⟩, rfl⟩ : ∃ D x, SA = D ++ [x] := ⟨SA.dropLast, SA.getLast (List.ne_nil_of_length_pos (hsg rfl)), (List.dropLast_concat_getLast _).symm⟩
                    have hSB : SB = D ++ [⟨T, q ++ Fp⟩] := by rw [HST.out, step_false _ _ _ _ rfl]
                    have hqs : q.size ≤ payQ (M9.take j) := by
                      have := HSZ.out ⟨T, q⟩ (by simp)
                      simpa using this
                    have hDl : D.length ≤ 1099511627777 := by simp at hln2; omega
                    have hA2 := HA.out
                    clear y4
                    obtain ⟨b, cb, rfl, hblt, hbl, hfrz, hcell, hA3⟩ := hA2.drew.payNew (q ++ Fp)
                    rw [← hSB] at hA3
                    have HA3 := Lib.hid hA3
                    have x2 : wr.cell? ⟨w9.heap.size, 2, none⟩ = some (.slice (some ⟨b, 0, none⟩) (D.length + 1) cb) := by
                      have := hA2.box.c2
                      simpa using this
                    have x2d : wr.drew.cell? ⟨w9.heap.size, 2, none⟩ = some (.slice (some ⟨b, 0, none⟩) (D.length + 1) cb) := x2
                    have y7x : wr.drew.cell? ⟨d9, o + j * 8 + 7, none⟩ = some (.string Fp) := (World.cell?_of_block (w := wr) (w' := wr.drew) ((hA2.bel.block d9 hd9).trans (HA.out.bel.block d9 hd9).symm)).trans y7
                    have hsum : ¬ 9223372036854775807 < q.size + Fp.size := by omega
                    clear hA2 hA3 hSB y7 hqs hsg
                    go_upto_region 30 with fail
                    have hki : (D.length : Int) < ((D.length + 1 : Nat) : Int) := by omega
                    have hki2 : D.length < D.length + 1 := by omega
                    generalize D.length + 1 = N1 at *
                    go_still_tail 17, (by kernel_rfl)
                    change wpList _ _ _ _ _ wr.drew
                    generalize wr.drew = w5 at *
                    go_wp2_with fail
                    go_roundw
                    case rel => exact ⟨j + 1, _, by go_num, by omega, Lib.hid (by rw [HSBE.out]; exact HA3.out)⟩
                    case measure => simp [intOf]; omega
                · have hjn : ¬ (j : Int) < (M9.length : Int) := by omega
                  have hje : M9.take j = M9 := List.take_of_length_le (by omega)
                  rw [hje] at HA
                  clear hje
                  have hwl : w.heap.size < w9.heap.size := (Array.getElem?_eq_some_iff.1 HZ9.out.fr).1
                  have hl8 : (L ++ [⟨fa, true, fc, true, ft, fk, fch, fp⟩] : List Fr).length ≤ 1099511627777 := by
                    have := HML.out
                    simp
                    omega
                  have hfil : restQ (L ++ [⟨fa, true, fc, true, ft, fk, fch, fp⟩] : List Fr) (fch, fk) = L.filter fun x => decide (x.plc ≠ (fch, fk)) := by simp [restQ, Fr.plc]
                  have HFIL := Lib.hid hfil
                  clear hfil
                  generalize (L ++ [⟨fa, true, fc, true, ft, fk, fch, fp⟩] : List Fr) = L8 at *
                  obtain ⟨A6, c6, rfl, _, _⟩ := HZ9.out.ol.form
                  obtain ⟨d8, _, hs8⟩ := HZ9.out.ol.shows
                  have HSR := Lib.hid (fun X (hb : Below w9.heap.size w9 X) => hs8.below' hb (Nat.le_refl _))
                  have HGR := Lib.hid (fun X (hb : Below w9.heap.size w9 X) => show X.cell? ⟨gb, 0, none⟩ = some (.slice A6 L8.length c6) by
                    rw [cell_of_row _ gb _ _ 27 (0, 0) ((hb.block gb (by omega)).trans HZ9.out.g)]; rfl)
                  have HXR := Lib.hid (fun X (hb : Below w9.heap.size w9 X) => show BoxF X w.heap.size ⟨fa, true, fc, true, ft, fk, fch, fp⟩ from (hb.block w.heap.size hwl).trans HZ9.out.fr)
                  have HLR := Lib.hid (And.intro HA.out.bel HA.out.size)
                  clear hs8
                  go_wp2_with fail
                  go_loopw [15, 16] (fun v i wz => ∃ k : Nat, k ≤ L8.length ∧ i = .int .i64 k ∧ OwnG frC 30 wz wr.heap.size v (restQ (L8.take k) (fch, fk)) ∧ Hid (Below wr.heap.size wr wz)) (fun _ i _ => L8.length - (intOf i).toNat)
                  case atStart => exact ⟨0, Nat.zero_le _, rfl, OwnG.nil_ _ _ _ _, Lib.hid (Below.refl _ _)⟩
                  case round =>
                    obtain ⟨k, hk, rfl, ho, HB⟩ := hrel
                    rename World => wz
                    have hbw : Below w9.heap.size w9 wz := HLR.out.1.trans (HB.out.mono (Nat.le_of_lt HLR.out.2))
                    have g0 := HGR.out wz hbw
                    obtain ⟨A5, c5, hv5, _, _⟩ := ho.form
                    subst hv5
                    by_cases hlt3 : k < L8.length
                    · have hkl : (k : Int) < (L8.length : Int) := by omega
                      obtain ⟨o, rfl, hd, hcl⟩ := (HSR.out wz hbw).at_ (by omega)
                      obtain ⟨x0, x1, x2, x3, x4, x5, x6, x7⟩ := fr_cell hcl hlt3
                      have hXj := HXR.out wz hbw
                      have y5 := hXj.c5
                      have y6 := hXj.c6
                      dsimp only at y5 y6
                      have hsn := rest_snoc L8 (fch, fk) k hlt3
                      have hle := rest_le L8 (fch, fk) k
                      have hszw := HB.out.size
                      have HB' := HB
                      have hML : k ≤ 1099511627777 := by omega
                      clear hcl hXj hbw hd
                      generalize hM : restQ (L8.take k) (fch, fk) = M5 at *
                      generalize hx : L8[k] = x at *
                      obtain ⟨xa, xb, xc, xd, xt, xk, xch, xp⟩ := x
                      simp only [Fr.plc, Prod.mk.injEq] at hsn
                      dsimp only at x0 x1 x2 x3 x4 x5 x6 x7
                      have HMX := Lib.hid (And.intro hM hx)
                      clear hM hx
                      by_cases hpl : xch = fch ∧ xk = fk
                      · obtain ⟨h1, h2⟩ := hpl
                        have e1 : ((xch : Int) != (fch : Int)) = false := by rw [h1]; simp
                        have e2 : ((xk : Int) != (fk : Int)) = false := by rw [h2]; simp
                        rw [if_pos ⟨h1, h2⟩, List.append_nil] at hsn
                        have HSN := Lib.hid hsn
                        clear hsn h1 h2 HMX
                        go_wp2_with fail
                        go_quiet (fail)
                        go_wp2_with fail
                        go_roundw
                        case rel => exact ⟨k + 1, by omega, by go_num, by rw [HSN.out]; exact ho, Lib.hid (below_drewN HB'.out _)⟩
                        case measure => simp [intOf]; omega
                      · rw [if_neg hpl] at hsn
                        have HSN := Lib.hid hsn
                        have hcs : ((xch : Int) != (fch : Int)) = true ∨ (((xch : Int) != (fch : Int)) = false ∧ ((xk : Int) != (fk : Int)) = true) := by
                          by_cases h1 : xch = fch
                          · refine .inr ⟨by rw [h1]; simp, ?_⟩
                            rw [bne_iff_ne]
                            intro e
                            exact hpl ⟨h1, by omega⟩
                          · refine .inl ?_
                            rw [bne_iff_ne]
                            intro e
                            exact h1 (by omega)
                        clear hsn HMX hpl
                        rcases hcs with e1 | ⟨e1, e2⟩
                        all_goals
                          go_wp2_with fail
                          go_quiet (fail)
                          go_upto_region 36 with fail
                          have hbv := below_drewN HB'.out nq
                          have hov : OwnG frC 30 (wz.drewN nq) wr.heap.size (.slice A5 M5.length c5) M5 := ho
                          have v0 : (wz.drewN nq).cell? ⟨d8, o + k * 8, none⟩ = some (.bool xa) := x0
                          have v1 : (wz.drewN nq).cell? ⟨d8, o + k * 8 + 1, none⟩ = some (.bool xb) := x1
                          have v2 : (wz.drewN nq).cell? ⟨d8, o + k * 8 + 2, none⟩ = some (.bool xc) := x2
                          have v3 : (wz.drewN nq).cell? ⟨d8, o + k * 8 + 3, none⟩ = some (.bool xd) := x3
                          have v4 : (wz.drewN nq).cell? ⟨d8, o + k * 8 + 4, none⟩ = some (.int .u8 xt) := x4
                          have v5 : (wz.drewN nq).cell? ⟨d8, o + k * 8 + 5, none⟩ = some (.int .u8 xk) := x5
                          have v6 : (wz.drewN nq).cell? ⟨d8, o + k * 8 + 6, none⟩ = some (.int .u16 xch) := x6
                          have v7 : (wz.drewN nq).cell? ⟨d8, o + k * 8 + 7, none⟩ = some (.string xp) := x7
                          have vg : (wz.drewN nq).cell? ⟨gb, 0, none⟩ = some (.slice (some ⟨d8, o, none⟩) L8.length c6) := g0
                          clear x0 x1 x2 x3 x4 x5 x6 x7 g0 y5 y6 ho HB HB' hszw
                          generalize wz.drewN nq = V5 at *
                          have hsv := hbv.size
                          go_upto_region 34 with (at_builtin; refine wpList_appendG frC _ rfl (.tmp 172) (.tmp 180) 22 rfl wr.heap.size 30 (.agg #[.bool false, .bool false, .bool false, .bool false, .int .u8 0, .int .u8 0, .int .u16 0, .string ⟨#[]⟩]) 24 Try.underlying22 infoFr rfl _ M5 rfl (hov.alloc_ _) V5.heap.size (.slice (some ⟨V5.heap.size, 0, none⟩) 1 1) [⟨xa, xb, xc, xd, xt, xk, xch, xp⟩] rfl (ShowsG.lit (C := frC) [⟨xa, xb, xc, xd, xt, xk, xch, xp⟩] (by simp [Code.all, frC, Fr.vs]) (by simp [maxLen])) (by simp; omega) (by simp; omega) (by simp; omega) ?_; intro v4' w4 ho4 hg4)
                          have hbA : Below V5.heap.size V5 (V5.alloc (Obj.cells #[.bool xa, .bool xb, .bool xc, .bool xd, .int .u8 xt, .int .u8 xk, .int .u16 xch, .string xp] 30)) := f_below_box _ _
                          have HB4 := Lib.hid ((hbv.trans (hbA.mono (by omega))).grown hg4 (by have := hbA.size; omega) (fun q hq => (hov.block q hq).1))
                          clear hg4 hbA hov hbv v0 v1 v2 v3 v4 v5 v6 v7 vg
                          go_wp2_with fail
                          go_roundw
                          case rel => exact ⟨k + 1, by omega, by go_num, by rw [HSN.out]; exact ho4, HB4⟩
                          case measure => simp [intOf]; omega
                    · have hkn : ¬ (k : Int) < (L8.length : Int) := by omega
                      have hke : L8.take k = L8 := List.take_of_length_le (by omega)
                      rw [hke] at ho
                      have hgl9 : gb < w9.heap.size := by omega
                      have hgz : wz.heap[gb]? = some (.cells #[.slice A6 L8.length c6, .bool false] 27 (0, 0)) := (hbw.block gb hgl9).trans HZ9.out.g
                      have fg : wz.frozen? ⟨gb, 0, none⟩ = false := frozen_of_row _ gb 0 _ 27 hgz
                      obtain ⟨As, cs, rfl, _, _⟩ := HA.out.own.form
                      have hE := whole_end HZ9.out HA.out HB.out ho HGB.out.1 HGB.out.2
                      dsimp only at hE
                      have HE := Lib.hid hE
                      have hh1 : w.heap.size + 1 < w9.heap.size := HZ9.out.r1.lt
                      have hbx1 : BoxA (wz.setCell ⟨gb, 0, none⟩ (.slice A5 (restQ L8 (fch, fk)).length c5)) w9.heap.size fch fk (.slice As (segsQ M9).length cs) := (heap_setCell_other _ _ _ _ (by show w9.heap.size ≠ gb; omega)).trans (HA.out.box.kept HB.out (Nat.le_refl _))
                      have hr1 : BoxA (wz.setCell ⟨gb, 0, none⟩ (.slice A5 (restQ L8 (fch, fk)).length c5)) (w.heap.size + 1) 0 0 (.slice none 0 0) := (heap_setCell_other _ _ _ _ (by show w.heap.size + 1 ≠ gb; omega)).trans ((hbw.block _ hh1).trans HZ9.out.r1)
                      have b0 := hbx1.c0
                      have b1 := hbx1.c1
                      have b2 := hbx1.c2
                      have s0 := hr1.c0
                      have s1 := hr1.c1
                      have s2 := hr1.c2
                      have s3 := hr1.fr
                      have r0 := hr1.fr 0
                      have r1 := (hr1.set0 fch).fr 1
                      have r2 := ((hr1.set0 fch).set1 fk).fr 2
                      clear ho hE hbx1 hr1
                      go_wp2_with fail
                      refine bodyPost_ret (results_c3 rfl _ _ (w.heap.size + 1) 34 _ (0, 0) _ rfl HE.out.1 Try.underlying34 rfl (by kernel_rfl)) rfl ?_
                      refine ⟨.slice A5 (restQ L8 (fch, fk)).length c5, .slice As (segsQ M9).length cs, ?_, ?_, HE.out.2.2.1, ?_, HE.out.2.2.2.2.1, HE.out.2.2.2.2.2⟩
                      · first
                          | rfl
                          | (rw [HM9.out]; rfl)
                      · rw [HM9.out]
                        exact HE.out.2.1
                      · refine Eq.mpr (congrArg (OwnG frC 30 _ B _) ?_) HE.out.2.2.2.1
                        rw [HFIL.out]
                        congr 1
                        funext x
                        simp [Fr.plc]
      · rw [if_pos hc] at hR
        have := HRN.out
        omega

end Go.Proofs.Ytocankfabgjjmaa
