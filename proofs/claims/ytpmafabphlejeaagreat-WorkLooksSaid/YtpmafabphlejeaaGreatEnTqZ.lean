/-
  The contract of the document's Same of entries.
  Conditions: none but sizes.
-/
import Derived.Test.YtpmafabphlejeaaGreatEnSZ
namespace Go.Proofs.YtpmafabphlejeaaGreat
open Go.RowKit
set_option linter.unusedVariables false
set_option linter.unusedSimpArgs false
set_option maxRecDepth 100000

theorem samePE_eq2 (a b : PutE) : samePE a b = ((a.q.toList == b.q.toList) && (decide (a.id = b.id) && ((a.body.toList == b.body.toList) && samePr a.p b.p))) := by
  rw [samePE_eq]
  cases (a.q.toList == b.q.toList) <;> cases decide (a.id = b.id) <;> cases (a.body.toList == b.body.toList) <;> cases samePr a.p b.p <;> rfl

set_option maxHeartbeats 4000000 in
theorem qsamePut_any (c c' : PutC) (w : World) (h : PutAt w c) (h' : PutAt w c') :
    Calls Tryz.prog 67 #[putV c, putV c'] w fun e w' => e = .returned (.bool (samePE c.e c'.e)) ∧ Below w.heap.size w w' := by
  have HS := Lib.hid (fun w' (hb : Below w.heap.size w w') => qpsame_any c.e.p c'.e.p _ _ _ _ _ _ _ _ _ _ w' (h.pr.kept hb (Nat.le_refl _)) (h'.pr.kept hb (Nat.le_refl _)))
  rw [samePE_eq2]
  have hT := TwoT.new w c c'
  obtain ⟨⟨q, id, ⟨key, dur, red, pid, app⟩, body⟩, ⟨k, n, ss, a3, n3, c3, a4, n4, c4⟩⟩ := c
  obtain ⟨⟨q', id', ⟨key', dur', red', pid', app'⟩, body'⟩, ⟨k', n', ss', a3', n3', c3', a4', n4', c4'⟩⟩ := c'
  unfold putV
  unfold propV at HS
  simp only [] at HS ⊢
  have hA := hT.a.cells
  have hB := hT.b.cells
  simp only [] at hA hB
  obtain ⟨⟨e0, e1, e2, e3, e4, e5⟩, e6, e7, e8, e9, e10, e11⟩ := hA
  obtain ⟨⟨d0, d1, d2, d3, d4, d5⟩, d6, d7, d8, d9, d10, d11⟩ := hB
  have HT := Lib.hid hT
  have HSX := Lib.hid (HS.out _ hT.bel)
  generalize samePr ⟨key, dur, red, pid, app⟩ ⟨key', dur', red', pid', app'⟩ = sp at *
  obtain ⟨b1, hb1⟩ : ∃ b1, b1 = (q.toList == q'.toList) := ⟨_, rfl⟩
  obtain ⟨b2, hb2⟩ : ∃ b2, b2 = decide (id = id') := ⟨_, rfl⟩
  obtain ⟨b3, hb3⟩ : ∃ b3, b3 = (body.toList == body'.toList) := ⟨_, rfl⟩
  rw [← hb1, ← hb2, ← hb3]
  have t2 : ((id : Int) == (id' : Int)) = b2 := by rw [hb2, Bool.eq_iff_iff]; simp only [beq_iff_eq, decide_eq_true_eq]; omega
  replace hb1 := hb1.symm
  replace hb3 := hb3.symm
  clear hb2 h h' hT HS
  go_enter Tryz.func67, Tryz.ntmps67
  cases b1 with
  | false =>
    go_wp2_with fail
    go_ret
    exact ⟨rfl, HT.out.bel⟩
  | true =>
  cases b2 with
  | false =>
    go_wp2_with fail
    go_ret
    exact ⟨rfl, HT.out.bel⟩
  | true =>
  cases b3 with
  | false =>
    go_wp2_with fail
    go_ret
    exact ⟨rfl, HT.out.bel⟩
  | true =>
  go_wp2_with fail
  refine HSX.out.mono ?_
  rintro e w3 ⟨rfl, hb⟩
  have hT3 := HT.out.step hb
  go_wp2_with fail
  go_ret
  exact ⟨rfl, hT3.bel⟩

set_option maxHeartbeats 8000000 in
theorem qsamePuts_any (A A' : Option Addr) (n n' : Nat) (cs ds : List PutC) (w : World) (h : RowP w A n cs) (h' : RowP w A' n' ds) :
    Calls Tryz.prog 42 #[.slice A cs.length n, .slice A' ds.length n'] w fun e w' => e = .returned (.bool (sameRow samePE (esOf cs) (esOf ds))) ∧ Below w.heap.size w w' := by
  have hlm := h.lm
  have hlm' := h'.lm
  have hl1 := esOf_len cs
  have hl2 := esOf_len ds
  obtain ⟨R, hR⟩ : ∃ R, R = sameRow samePE (esOf cs) (esOf ds) := ⟨_, rfl⟩
  rw [← hR]
  have HR := Lib.hid hR
  clear hR
  have HE1 := Lib.hid hl1
  have HE2 := Lib.hid hl2
  clear hl1 hl2
  have HS := Lib.hid (fun j (hj : j < cs.length) (hj' : j < ds.length) w' (hb : Below w.heap.size w w') => qsamePut_any cs[j] ds[j] w' ((h.each j hj).kept hb (Nat.le_refl _)) ((h'.each j hj').kept hb (Nat.le_refl _)))
  unfold putV at HS
  by_cases hlen : cs.length = ds.length
  case neg =>
    have hf : R = false := HR.out.trans (sameRow_len (by rw [HE1.out, HE2.out]; exact hlen))
    have hne : ((cs.length : Int) != (ds.length : Int)) = true := by simp; omega
    go_enter Tryz.func42, Tryz.ntmps42
    go_wp2_with fail
    go_ret
    exact ⟨by first | (rw [hf]; done) | (rw [hf]; rfl), Below.refl _ _⟩
  have hne : ((cs.length : Int) != (ds.length : Int)) = false := by simp; omega
  have HLN := Lib.hid hlen
  clear hlen
  go_enter Tryz.func42, Tryz.ntmps42
  go_wp2_with fail
  clear hne
  go_loopw [5] (fun i wr => ∃ j : Nat, j ≤ cs.length ∧ i = .int .i64 j ∧ Below w.heap.size w wr ∧ ∀ q (h1 : q < cs.length) (h2 : q < ds.length), q < j → samePE cs[q].e ds[q].e = true) (fun i _ => cs.length - (intOf i).toNat)
  case atStart => exact ⟨0, by omega, rfl, Below.refl _ _, fun q _ _ h => absurd h (by omega)⟩
  case round =>
    rename World => x
    obtain ⟨j, hj, rfl, hb, hlo⟩ := hrel
    by_cases hlt : j < cs.length
    · have hlt' : j < ds.length := by have := HLN.out; omega
      obtain ⟨d, o, rfl, hd, ⟨e0, e1, e2, e3, e4, e5⟩, e6, e7, e8, e9, e10, e11⟩ := (h.kept hb (Nat.le_refl _)).at_ j hlt
      have hj1 : (j : Int) < (cs.length : Int) := by omega
      have hj2 : (j : Int) < (ds.length : Int) := by omega
      obtain ⟨d', o', rfl, hd', ⟨g0, g1, g2, g3, g4, g5⟩, g6, g7, g8, g9, g10, g11⟩ := (h'.kept hb (Nat.le_refl _)).at_ j hlt'
      have hj0 : (0 : Int) ≤ (j : Int) := by omega
      have hsame := HS.out j hlt hlt' _ (below_drew1 hb)
      have HSAME := Lib.hid hsame
      have HKEEP := Lib.hid (show ∀ w', Below x.heap.size x w' → (w'.cell? ⟨d, o + j * 12, none⟩ = some (.string cs[j].e.q) ∧ w'.cell? ⟨d, o + j * 12 + 1, none⟩ = some (.int .u64 cs[j].e.id) ∧ w'.cell? ⟨d, o + j * 12 + 2, none⟩ = some (.string cs[j].e.p.key) ∧ w'.cell? ⟨d, o + j * 12 + 3, none⟩ = some (.bool cs[j].e.p.dur) ∧ w'.cell? ⟨d, o + j * 12 + 4, none⟩ = some (.bool cs[j].e.p.red) ∧ w'.cell? ⟨d, o + j * 12 + 5, none⟩ = some (.string cs[j].e.p.id) ∧ w'.cell? ⟨d, o + j * 12 + 6, none⟩ = some (.int .u8 cs[j].x.k) ∧ w'.cell? ⟨d, o + j * 12 + 7, none⟩ = some (.int .u64 cs[j].x.n) ∧ w'.cell? ⟨d, o + j * 12 + 8, none⟩ = some (.string cs[j].x.s) ∧ w'.cell? ⟨d, o + j * 12 + 9, none⟩ = some (.slice cs[j].x.a3 cs[j].x.n3 cs[j].x.c3) ∧ w'.cell? ⟨d, o + j * 12 + 10, none⟩ = some (.slice cs[j].x.a4 cs[j].x.n4 cs[j].x.c4) ∧ w'.cell? ⟨d, o + j * 12 + 11, none⟩ = some (.string cs[j].e.body)) ∧ (w'.cell? ⟨d', o' + j * 12, none⟩ = some (.string ds[j].e.q) ∧ w'.cell? ⟨d', o' + j * 12 + 1, none⟩ = some (.int .u64 ds[j].e.id) ∧ w'.cell? ⟨d', o' + j * 12 + 2, none⟩ = some (.string ds[j].e.p.key) ∧ w'.cell? ⟨d', o' + j * 12 + 3, none⟩ = some (.bool ds[j].e.p.dur) ∧ w'.cell? ⟨d', o' + j * 12 + 4, none⟩ = some (.bool ds[j].e.p.red) ∧ w'.cell? ⟨d', o' + j * 12 + 5, none⟩ = some (.string ds[j].e.p.id) ∧ w'.cell? ⟨d', o' + j * 12 + 6, none⟩ = some (.int .u8 ds[j].x.k) ∧ w'.cell? ⟨d', o' + j * 12 + 7, none⟩ = some (.int .u64 ds[j].x.n) ∧ w'.cell? ⟨d', o' + j * 12 + 8, none⟩ = some (.string ds[j].x.s) ∧ w'.cell? ⟨d', o' + j * 12 + 9, none⟩ = some (.slice ds[j].x.a3 ds[j].x.n3 ds[j].x.c3) ∧ w'.cell? ⟨d', o' + j * 12 + 10, none⟩ = some (.slice ds[j].x.a4 ds[j].x.n4 ds[j].x.c4) ∧ w'.cell? ⟨d', o' + j * 12 + 11, none⟩ = some (.string ds[j].e.body)) from fun w' hb' => by
        obtain ⟨_, _, e, _, ⟨e0, e1, e2, e3, e4, e5⟩, e6, e7, e8, e9, e10, e11⟩ := (h.kept (hb.trans (hb'.mono hb.size)) (Nat.le_refl _)).at_ j hlt
        cases e
        obtain ⟨_, _, e, _, ⟨g0, g1, g2, g3, g4, g5⟩, g6, g7, g8, g9, g10, g11⟩ := (h'.kept (hb.trans (hb'.mono hb.size)) (Nat.le_refl _)).at_ j hlt'
        cases e
        exact ⟨⟨e0, e1, e2, e3, e4, e5, e6, e7, e8, e9, e10, e11⟩, g0, g1, g2, g3, g4, g5, g6, g7, g8, g9, g10, g11⟩)
      clear e0 e1 e2 e3 e4 e5 e6 e7 e8 e9 e10 e11 g0 g1 g2 g3 g4 g5 g6 g7 g8 g9 g10 g11
      cases hp : samePE cs[j].e ds[j].e with
      | false =>
        have hfin : R = false := HR.out.trans (sameRow_diff j (by rw [HE1.out]; exact hlt) (by rw [HE2.out]; exact hlt') (by rw [esOf_get, esOf_get]; exact hp))
        have HFI := Lib.hid hfin
        have HSM : Hid _ := HSAME
        rw [hp] at HSM
        clear hlo hp hfin hsame HSAME
        go_wp2_with fail
        go_region_held3 (fun w' => (w'.cell? ⟨d, o + j * 12, none⟩ = some (.string cs[j].e.q) ∧ w'.cell? ⟨d, o + j * 12 + 1, none⟩ = some (.int .u64 cs[j].e.id) ∧ w'.cell? ⟨d, o + j * 12 + 2, none⟩ = some (.string cs[j].e.p.key) ∧ w'.cell? ⟨d, o + j * 12 + 3, none⟩ = some (.bool cs[j].e.p.dur) ∧ w'.cell? ⟨d, o + j * 12 + 4, none⟩ = some (.bool cs[j].e.p.red) ∧ w'.cell? ⟨d, o + j * 12 + 5, none⟩ = some (.string cs[j].e.p.id) ∧ w'.cell? ⟨d, o + j * 12 + 6, none⟩ = some (.int .u8 cs[j].x.k) ∧ w'.cell? ⟨d, o + j * 12 + 7, none⟩ = some (.int .u64 cs[j].x.n) ∧ w'.cell? ⟨d, o + j * 12 + 8, none⟩ = some (.string cs[j].x.s) ∧ w'.cell? ⟨d, o + j * 12 + 9, none⟩ = some (.slice cs[j].x.a3 cs[j].x.n3 cs[j].x.c3) ∧ w'.cell? ⟨d, o + j * 12 + 10, none⟩ = some (.slice cs[j].x.a4 cs[j].x.n4 cs[j].x.c4) ∧ w'.cell? ⟨d, o + j * 12 + 11, none⟩ = some (.string cs[j].e.body)) ∧ (w'.cell? ⟨d', o' + j * 12, none⟩ = some (.string ds[j].e.q) ∧ w'.cell? ⟨d', o' + j * 12 + 1, none⟩ = some (.int .u64 ds[j].e.id) ∧ w'.cell? ⟨d', o' + j * 12 + 2, none⟩ = some (.string ds[j].e.p.key) ∧ w'.cell? ⟨d', o' + j * 12 + 3, none⟩ = some (.bool ds[j].e.p.dur) ∧ w'.cell? ⟨d', o' + j * 12 + 4, none⟩ = some (.bool ds[j].e.p.red) ∧ w'.cell? ⟨d', o' + j * 12 + 5, none⟩ = some (.string ds[j].e.p.id) ∧ w'.cell? ⟨d', o' + j * 12 + 6, none⟩ = some (.int .u8 ds[j].x.k) ∧ w'.cell? ⟨d', o' + j * 12 + 7, none⟩ = some (.int .u64 ds[j].x.n) ∧ w'.cell? ⟨d', o' + j * 12 + 8, none⟩ = some (.string ds[j].x.s) ∧ w'.cell? ⟨d', o' + j * 12 + 9, none⟩ = some (.slice ds[j].x.a3 ds[j].x.n3 ds[j].x.c3) ∧ w'.cell? ⟨d', o' + j * 12 + 10, none⟩ = some (.slice ds[j].x.a4 ds[j].x.n4 ds[j].x.c4) ∧ w'.cell? ⟨d', o' + j * 12 + 11, none⟩ = some (.string ds[j].e.body))) (first | with_reducible exact HKEEP.out _ (below_drew1 (Below.refl _ _)) | exact HKEEP.out _ ((below_drew1 (Below.refl _ _)).trans hx))
          (first
            | (go_at_call 67
               refine HSM.out.mono ?_
               rintro e wx ⟨rfl, hx⟩))
        go_wp2_with fail
        go_ret
        exact ⟨by first | (rw [HFI.out]; done) | (rw [HFI.out]; rfl), (below_drew1 hb).trans (hx.mono (below_drew1 hb).size)⟩
      | true =>
        have HLO : Hid (∀ q (h1 : q < cs.length) (h2 : q < ds.length), q < j + 1 → samePE cs[q].e ds[q].e = true) := by
          show ∀ q (h1 : q < cs.length) (h2 : q < ds.length), q < j + 1 → samePE cs[q].e ds[q].e = true
          intro q h1 h2 hqj
          by_cases hqj2 : q < j
          · exact hlo q h1 h2 hqj2
          · obtain rfl : q = j := by omega
            exact hp
        have HSM : Hid _ := HSAME
        rw [hp] at HSM
        clear hlo hp hsame HSAME
        go_wp2_with fail
        go_region_held3 (fun w' => (w'.cell? ⟨d, o + j * 12, none⟩ = some (.string cs[j].e.q) ∧ w'.cell? ⟨d, o + j * 12 + 1, none⟩ = some (.int .u64 cs[j].e.id) ∧ w'.cell? ⟨d, o + j * 12 + 2, none⟩ = some (.string cs[j].e.p.key) ∧ w'.cell? ⟨d, o + j * 12 + 3, none⟩ = some (.bool cs[j].e.p.dur) ∧ w'.cell? ⟨d, o + j * 12 + 4, none⟩ = some (.bool cs[j].e.p.red) ∧ w'.cell? ⟨d, o + j * 12 + 5, none⟩ = some (.string cs[j].e.p.id) ∧ w'.cell? ⟨d, o + j * 12 + 6, none⟩ = some (.int .u8 cs[j].x.k) ∧ w'.cell? ⟨d, o + j * 12 + 7, none⟩ = some (.int .u64 cs[j].x.n) ∧ w'.cell? ⟨d, o + j * 12 + 8, none⟩ = some (.string cs[j].x.s) ∧ w'.cell? ⟨d, o + j * 12 + 9, none⟩ = some (.slice cs[j].x.a3 cs[j].x.n3 cs[j].x.c3) ∧ w'.cell? ⟨d, o + j * 12 + 10, none⟩ = some (.slice cs[j].x.a4 cs[j].x.n4 cs[j].x.c4) ∧ w'.cell? ⟨d, o + j * 12 + 11, none⟩ = some (.string cs[j].e.body)) ∧ (w'.cell? ⟨d', o' + j * 12, none⟩ = some (.string ds[j].e.q) ∧ w'.cell? ⟨d', o' + j * 12 + 1, none⟩ = some (.int .u64 ds[j].e.id) ∧ w'.cell? ⟨d', o' + j * 12 + 2, none⟩ = some (.string ds[j].e.p.key) ∧ w'.cell? ⟨d', o' + j * 12 + 3, none⟩ = some (.bool ds[j].e.p.dur) ∧ w'.cell? ⟨d', o' + j * 12 + 4, none⟩ = some (.bool ds[j].e.p.red) ∧ w'.cell? ⟨d', o' + j * 12 + 5, none⟩ = some (.string ds[j].e.p.id) ∧ w'.cell? ⟨d', o' + j * 12 + 6, none⟩ = some (.int .u8 ds[j].x.k) ∧ w'.cell? ⟨d', o' + j * 12 + 7, none⟩ = some (.int .u64 ds[j].x.n) ∧ w'.cell? ⟨d', o' + j * 12 + 8, none⟩ = some (.string ds[j].x.s) ∧ w'.cell? ⟨d', o' + j * 12 + 9, none⟩ = some (.slice ds[j].x.a3 ds[j].x.n3 ds[j].x.c3) ∧ w'.cell? ⟨d', o' + j * 12 + 10, none⟩ = some (.slice ds[j].x.a4 ds[j].x.n4 ds[j].x.c4) ∧ w'.cell? ⟨d', o' + j * 12 + 11, none⟩ = some (.string ds[j].e.body))) (first | with_reducible exact HKEEP.out _ (below_drew1 (Below.refl _ _)) | exact HKEEP.out _ ((below_drew1 (Below.refl _ _)).trans hx))
          (first
            | (go_at_call 67
               refine HSM.out.mono ?_
               rintro e wx ⟨rfl, hx⟩))
        go_wp2_with fail
        go_roundw
        case rel => exact ⟨j + 1, by omega, by go_num, (below_drew1 hb).trans (hx.mono (below_drew1 hb).size), HLO.out⟩
        case measure => simp [intOf]; omega
    · have hjl : ¬ (j : Int) < (cs.length : Int) := by omega
      have hfin : R = true := HR.out.trans (sameRow_all (by rw [HE1.out, HE2.out]; exact HLN.out) fun q h1 h2 => by
        rw [HE1.out] at h1
        rw [HE2.out] at h2
        rw [esOf_get cs q h1, esOf_get ds q h2]
        exact hlo q h1 h2 (by omega))
      have HFI := Lib.hid hfin
      clear hlo hfin
      go_wp2_with fail
      go_ret
      exact ⟨by first | (rw [HFI.out]; done) | (rw [HFI.out]; rfl), hb⟩

set_option maxHeartbeats 8000000 in
theorem qsameRefs_any (A A' : Option Addr) (n n' : Nat) (cs ds : List RefE) (w : World) (h : RowR w A n cs) (h' : RowR w A' n' ds) :
    Calls Tryz.prog 43 #[.slice A cs.length n, .slice A' ds.length n'] w fun e w' => e = .returned (.bool (sameRow sameRE cs ds)) ∧ Below w.heap.size w w' := by
  have hlm := h.lm
  have hlm' := h'.lm
  obtain ⟨R, hR⟩ : ∃ R, R = sameRow sameRE cs ds := ⟨_, rfl⟩
  rw [← hR]
  have HR := Lib.hid hR
  clear hR
  by_cases hlen : cs.length = ds.length
  case neg =>
    have hf : R = false := HR.out.trans (sameRow_len hlen)
    have hne : ((cs.length : Int) != (ds.length : Int)) = true := by simp; omega
    go_enter Tryz.func43, Tryz.ntmps43
    go_wp2_with fail
    go_ret
    exact ⟨by first | (rw [hf]; done) | (rw [hf]; rfl), Below.refl _ _⟩
  have hne : ((cs.length : Int) != (ds.length : Int)) = false := by simp; omega
  have HLN := Lib.hid hlen
  clear hlen
  go_enter Tryz.func43, Tryz.ntmps43
  go_wp2_with fail
  clear hne
  go_loopw [5] (fun i wr => ∃ j : Nat, j ≤ cs.length ∧ i = .int .i64 j ∧ Below w.heap.size w wr ∧ ∀ q (h1 : q < cs.length) (h2 : q < ds.length), q < j → sameRE cs[q] ds[q] = true) (fun i _ => cs.length - (intOf i).toNat)
  case atStart => exact ⟨0, by omega, rfl, Below.refl _ _, fun q _ _ h => absurd h (by omega)⟩
  case round =>
    rename World => x
    obtain ⟨j, hj, rfl, hb, hlo⟩ := hrel
    by_cases hlt : j < cs.length
    · have hlt' : j < ds.length := by have := HLN.out; omega
      obtain ⟨d, o, rfl, hd, e0, e1⟩ := (h.kept hb (Nat.le_refl _)).at_ j hlt
      obtain ⟨d', o', rfl, hd', g0, g1⟩ := (h'.kept hb (Nat.le_refl _)).at_ j hlt'
      have hj1 : (j : Int) < (cs.length : Int) := by omega
      have hj2 : (j : Int) < (ds.length : Int) := by omega
      have hj0 : (0 : Int) ≤ (j : Int) := by omega
      have hGd := refGuard
      have hEq := fun w => run_eq_ref cs[j].q ds[j].q cs[j].id ds[j].id w
      have hsr : sameRE cs[j] ds[j] = decide (cs[j].q = ds[j].q ∧ cs[j].id = ds[j].id) := rfl
      rw [← hsr] at hEq
      clear hsr
      cases hp : sameRE cs[j] ds[j] with
      | false =>
        have hfin : R = false := HR.out.trans (sameRow_diff j hlt hlt' hp)
        have HFI := Lib.hid hfin
        rw [hp] at hEq
        clear hlo hp hfin
        go_wp2_with fail
        go_quiet (fail)
        go_wp2_with fail
        go_ret
        exact ⟨by first | (rw [HFI.out]; done) | (rw [HFI.out]; rfl), below_drewN hb _⟩
      | true =>
        have HLO : Hid (∀ q (h1 : q < cs.length) (h2 : q < ds.length), q < j + 1 → sameRE cs[q] ds[q] = true) := by
          show ∀ q (h1 : q < cs.length) (h2 : q < ds.length), q < j + 1 → sameRE cs[q] ds[q] = true
          intro q h1 h2 hqj
          by_cases hqj2 : q < j
          · exact hlo q h1 h2 hqj2
          · obtain rfl : q = j := by omega
            exact hp
        rw [hp] at hEq
        clear hlo hp
        go_wp2_with fail
        go_quiet (fail)
        go_wp2_with fail
        go_roundw
        case rel => exact ⟨j + 1, by omega, by go_num, below_drewN hb _, HLO.out⟩
        case measure => simp [intOf]; omega
    · have hjl : ¬ (j : Int) < (cs.length : Int) := by omega
      have hfin : R = true := HR.out.trans (sameRow_all HLN.out fun q h1 h2 => hlo q h1 h2 (by omega))
      have HFI := Lib.hid hfin
      clear hlo hfin
      go_wp2_with fail
      go_ret
      exact ⟨by first | (rw [HFI.out]; done) | (rw [HFI.out]; rfl), hb⟩

set_option maxHeartbeats 8000000 in
theorem qesame_any (x y : EntC) (w : World) (h : ShowsE w x) (h' : ShowsE w y) :
    Calls Tryz.prog 22 #[entV x, entV y] w fun e w' => e = .returned (.bool (sameE x.e y.e)) ∧ Below w.heap.size w w' := by
  have HP := Lib.hid (fun w' (hb : Below w.heap.size w w') => qsamePuts_any x.A1 y.A1 x.c1 y.c1 x.cs y.cs w' (h.puts.kept hb (Nat.le_refl _)) (h'.puts.kept hb (Nat.le_refl _)))
  have HT := Lib.hid (fun w' (hb : Below w.heap.size w w') => qsameRefs_any x.A2 y.A2 x.c2 y.c2 x.rs y.rs w' (h.takes.kept hb (Nat.le_refl _)) (h'.takes.kept hb (Nat.le_refl _)))
  rw [sameE_eq]
  rw [show x.e.k = x.k from rfl, show x.e.name = x.name from rfl, show x.e.n = x.n from rfl, show x.e.xf = x.xf from rfl, show x.e.xg = x.xg from rfl, show x.e.xh = x.xh from rfl, show x.e.puts = esOf x.cs from rfl, show x.e.takes = x.rs from rfl,
    show y.e.k = y.k from rfl, show y.e.name = y.name from rfl, show y.e.n = y.n from rfl, show y.e.xf = y.xf from rfl, show y.e.xg = y.xg from rfl, show y.e.xh = y.xh from rfl, show y.e.puts = esOf y.cs from rfl, show y.e.takes = y.rs from rfl]
  have hT := TwoE.new w x y
  have hGd := xidGuard
  have hEq := fun w => run_eq_xid x.xf y.xf x.xg x.xh y.xg y.xh w
  generalize sameRow samePE (esOf x.cs) (esOf y.cs) = r1 at *
  generalize sameRow sameRE x.rs y.rs = r2 at *
  generalize decide ((x.xf, x.xg, x.xh) = (y.xf, y.xg, y.xh)) = b4 at *
  obtain ⟨b1, hb1⟩ : ∃ b1, b1 = decide (x.k = y.k) := ⟨_, rfl⟩
  obtain ⟨b2, hb2⟩ : ∃ b2, b2 = (x.name.toList == y.name.toList) := ⟨_, rfl⟩
  obtain ⟨b3, hb3⟩ : ∃ b3, b3 = decide (x.n = y.n) := ⟨_, rfl⟩
  rw [← hb1, ← hb2, ← hb3]
  have t1 : ((x.k : Int) == (y.k : Int)) = b1 := by rw [hb1, Bool.eq_iff_iff]; simp only [beq_iff_eq, decide_eq_true_eq]; omega
  have t3 : ((x.n : Int) == (y.n : Int)) = b3 := by rw [hb3, Bool.eq_iff_iff]; simp only [beq_iff_eq, decide_eq_true_eq]; omega
  replace hb2 := hb2.symm
  clear hb1 hb3
  obtain ⟨k, name, n, xf, xg, xh, A1, c1, cs, A2, c2, rs⟩ := x
  obtain ⟨k', name', n', xf', xg', xh', A1', c1', cs', A2', c2', rs'⟩ := y
  unfold entV
  simp only [] at *
  have hA := hT.a.cells
  have hB := hT.b.cells
  simp only [] at hA hB
  obtain ⟨⟨e0, e1, e2⟩, ⟨e3, e4, e5⟩, e6, e7⟩ := hA
  obtain ⟨⟨d0, d1, d2⟩, ⟨d3, d4, d5⟩, d6, d7⟩ := hB
  have HTW := Lib.hid hT
  clear hT h h'
  go_enter Tryz.func22, Tryz.ntmps22
  cases b1 with
  | false =>
    go_wp2_with fail
    go_ret
    exact ⟨rfl, HTW.out.bel⟩
  | true =>
  cases b2 with
  | false =>
    go_wp2_with fail
    go_ret
    exact ⟨rfl, HTW.out.bel⟩
  | true =>
  cases b3 with
  | false =>
    go_wp2_with fail
    go_ret
    exact ⟨rfl, HTW.out.bel⟩
  | true =>
  cases b4 with
  | false =>
    go_wp2_with fail
    go_ret
    exact ⟨rfl, HTW.out.bel⟩
  | true =>
  go_wp2_with fail
  refine (HP.out _ HTW.out.bel).mono ?_
  rintro e w3 ⟨rfl, hb3⟩
  have hT3 := HTW.out.step hb3
  cases r1 with
  | false =>
    go_wp2_with fail
    go_ret
    exact ⟨rfl, hT3.bel⟩
  | true =>
  have g1 := hT3.a.cells.2.2.2
  have g2 := hT3.b.cells.2.2.2
  simp only [] at g1 g2
  clear e0 e1 e2 e3 e4 e5 e6 e7 d0 d1 d2 d3 d4 d5 d6 d7
  go_wp2_with fail
  refine (HT.out _ hT3.bel).mono ?_
  rintro e w4 ⟨rfl, hb4⟩
  go_wp2_with fail
  go_ret
  exact ⟨rfl, hT3.bel.trans (hb4.mono hT3.bel.size)⟩

end Go.Proofs.YtpmafabphlejeaaGreat
