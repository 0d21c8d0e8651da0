/-
  Texts, together: EnB, EnC, EnD, EnX.
  Conditions: none but sizes.
-/
import Derived.Test.YtpmafabphlejeaaGreatEnPZ
import Derived.Test.YtpmafabphlejeaaGreatPrIZ
import Derived.Test.YtpmafabphlejeaaGreatRef04AZ
/-
  The contracts of isPut, of isNoTake and of what isWork asks of a put; of slices.ContainsFunc over puts and over names.
  Conditions: none but sizes.
-/
namespace Go.Proofs.YtpmafabphlejeaaGreat
open Go.RowKit
set_option linter.unusedVariables false
set_option linter.unusedSimpArgs false
set_option maxRecDepth 100000

open Classical in
noncomputable def putOKB (p : PutE) : Bool := decide (putOK p)
theorem putOKB_eq (p : PutE) : putOKB p = (qnOK p.q && (decide (p.body.size ≤ 4096) && (decide (errP p.p = 0) && decide ((putPr p.p).size ≤ 8192)))) := by
  unfold putOKB putOK
  by_cases hv : validPr p.p
  · rw [errP_ok hv]
    have : (putPr p.p).size = (encPr p.p).length := by
      unfold putPr
      rw [if_pos hv, str8_size]
    rw [this, Bool.eq_iff_iff]
    simp only [decide_eq_true_eq, Bool.and_eq_true]
    constructor
    · rintro ⟨h1, h2, _, h4⟩; exact ⟨h1, h2, trivial, h4⟩
    · rintro ⟨h1, h2, _, h4⟩; exact ⟨h1, h2, hv, h4⟩
  · rw [errP_no hv, Bool.eq_iff_iff]
    simp only [decide_eq_true_eq, Bool.and_eq_true]
    constructor
    · rintro ⟨_, _, h3, _⟩; exact absurd h3 hv
    · rintro ⟨_, _, h3, _⟩; exact absurd h3 (by decide)

set_option maxHeartbeats 2000000 in
theorem isPut_any (c : PutC) (w : World) (h : PutAt w c) (hc : cntT c.e.p.app ≤ 1000000) :
    Calls Tryz.prog 77 #[putV c] w fun e w' => e = .returned (.bool (putOKB c.e)) ∧ Below w.heap.size w w' := by
  have HQ := Lib.hid (fun w' => qname_any c.e.q w' (by have := h.q; omega))
  have HP := Lib.hid (fun w' (hb : Below w.heap.size w w') => pput_any c.e.p _ _ _ _ _ w' (h.pr.kept hb (Nat.le_refl _)) hc)
  rw [putOKB_eq]
  obtain ⟨⟨q, id, ⟨key, dur, red, pid, app⟩, body⟩, ⟨k, n, ss, a3, n3, c3, a4, n4, c4⟩⟩ := c
  unfold putV
  unfold propV at HP
  simp only [] at HQ HP ⊢
  have hB := below_boxV w (Obj.cells #[.string q, .int .u64 id, .string key, .bool dur, .bool red, .string pid, .int .u8 k, .int .u64 n, .string ss, .slice a3 n3 c3, .slice a4 n4 c4, .string body] 35)
  have hX := BoxT.new (c := ⟨⟨q, id, ⟨key, dur, red, pid, app⟩, body⟩, ⟨k, n, ss, a3, n3, c3, a4, n4, c4⟩⟩) w
  obtain ⟨⟨e0, e1, e2, e3, e4, e5⟩, e6, e7, e8, e9, e10, e11⟩ := hX.cells
  simp only [] at e0 e1 e2 e3 e4 e5 e6 e7 e8 e9 e10 e11
  have HB := Lib.hid hB
  have HPX := Lib.hid (HP.out _ hB)
  generalize putPr ⟨key, dur, red, pid, app⟩ = S at *
  generalize errP ⟨key, dur, red, pid, app⟩ = E at *
  generalize qnOK q = b1 at *
  obtain ⟨b2, hb2⟩ : ∃ b2, b2 = decide (body.size ≤ 4096) := ⟨_, rfl⟩
  obtain ⟨b3, hb3⟩ : ∃ b3, b3 = decide (E = 0) := ⟨_, rfl⟩
  obtain ⟨b4, hb4⟩ : ∃ b4, b4 = decide (S.size ≤ 8192) := ⟨_, rfl⟩
  rw [← hb2, ← hb3, ← hb4]
  have t2 : decide ((4096 : Int) < (body.size : Int)) = !b2 := by rw [hb2, Bool.eq_iff_iff]; simp; omega
  have t3 : ((E : Int) == 0) = b3 := by rw [hb3, Bool.eq_iff_iff]; simp
  have t4 : decide ((S.size : Int) ≤ 8192) = b4 := by rw [hb4, Bool.eq_iff_iff]; simp only [decide_eq_true_eq]; omega
  clear hb2 hb3 hb4 h hc hB hX HP
  cases b1 with
  | false =>
    go_enter Tryz.func77, Tryz.ntmps77
    go_wp2_with fail
    refine (HQ.out _).mono ?_
    rintro e w1 ⟨rfl, rfl⟩
    go_wp2_with fail
    go_ret
    exact ⟨rfl, HB.out⟩
  | true =>
  cases b2 with
  | false =>
    go_enter Tryz.func77, Tryz.ntmps77
    go_wp2_with fail
    refine (HQ.out _).mono ?_
    rintro e w1 ⟨rfl, rfl⟩
    go_wp2_with fail
    go_ret
    exact ⟨rfl, HB.out⟩
  | true =>
  go_enter Tryz.func77, Tryz.ntmps77
  go_wp2_with fail
  refine (HQ.out _).mono ?_
  rintro e w1 ⟨rfl, rfl⟩
  go_wp2_with fail
  refine HPX.out.mono ?_
  rintro e w2 ⟨rfl, hb2⟩
  cases b3
  all_goals
    go_wp2_with fail
    go_ret
    exact ⟨by first | rfl | (rw [t4]; rfl), HB.out.trans (hb2.mono HB.out.size)⟩

theorem isNoTake_any (r : RefE) (w : World) (h : RefAt r) :
    Calls Tryz.prog 80 #[refV r] w fun e w' => e = .returned (.bool (!refMay r)) ∧ Below w.heap.size w w' := by
  have HQ := Lib.hid (fun w' => qname_any r.q w' (by have := h.1; omega))
  have HM := Lib.hid (fun w' => isMsg_any r.id w')
  have hr : refMay r = (qnOK r.q && msgOK r.id) := rfl
  rw [hr]
  obtain ⟨q, id⟩ := r
  unfold refV
  simp only [] at HQ HM ⊢
  generalize qnOK q = b1 at *
  generalize msgOK id = b2 at *
  have hB := below_boxV w (Obj.cells #[.string q, .int .u64 id] 37)
  have hX := box2_cells w (.string q) (.int .u64 id) 37
  obtain ⟨e0, e1⟩ := hX
  have HB := Lib.hid hB
  clear hB hr h
  cases b1 with
  | false =>
    go_enter Tryz.func80, Tryz.ntmps80
    go_wp2_with fail
    refine (HQ.out _).mono ?_
    rintro e w1 ⟨rfl, rfl⟩
    go_wp2_with fail
    go_ret
    exact ⟨rfl, HB.out⟩
  | true =>
    go_enter Tryz.func80, Tryz.ntmps80
    go_wp2_with fail
    refine (HQ.out _).mono ?_
    rintro e w1 ⟨rfl, rfl⟩
    go_wp2_with fail
    refine (HM.out _).mono ?_
    rintro e w2 ⟨rfl, rfl⟩
    go_wp2_with fail
    go_ret
    exact ⟨rfl, HB.out⟩

open Classical in
noncomputable def putMayB (d : Bool) (p : PutE) : Bool := decide (putMay d p)
theorem putMayB_eq (d : Bool) (p : PutE) : putMayB d p = (rightD d (decide (p.id = 0)) (msgOK p.id) && putOKB p) := by
  unfold putMayB putMay putOKB
  rw [Bool.eq_iff_iff]
  simp only [decide_eq_true_eq, Bool.and_eq_true]
  unfold putNum rightD
  exact Iff.rfl

end Go.Proofs.YtpmafabphlejeaaGreat
/-
  The contracts of what isWork asks of a put, of slices.IndexFunc and slices.ContainsFunc over puts and over names, of isWork.
  Conditions: none but sizes.
-/
namespace Go.Proofs.YtpmafabphlejeaaGreat
open Go.RowKit
set_option linter.unusedVariables false
set_option linter.unusedSimpArgs false
set_option maxRecDepth 100000

set_option maxHeartbeats 2000000 in
theorem isWork1_any (bb : Nat) (d : Bool) (c : PutC) (w : World) (hd : w.cell? ⟨bb, 0, none⟩ = some (.bool d)) (h : PutAt w c) (hc : cntT c.e.p.app ≤ 1000000) :
    Calls Tryz.prog 76 #[putV c, .pointer (some ⟨bb, 0, none⟩)] w fun e w' => e = .returned (.bool (!putMayB d c.e)) ∧ Below w.heap.size w w' := by
  have HP := Lib.hid (fun w' (hb : Below w.heap.size w w') => isPut_any c w' (h.kept hb (Nat.le_refl _)) hc)
  have HM := Lib.hid (fun w' => isMsg_any c.e.id w')
  have hbb : bb < w.heap.size := World.block_lt_of_cell? w _ hd
  rw [putMayB_eq]
  obtain ⟨⟨q, id, ⟨key, dur, red, pid, app⟩, body⟩, ⟨k, n, ss, a3, n3, c3, a4, n4, c4⟩⟩ := c
  unfold putV at HP ⊢
  simp only [] at HM HP ⊢
  have hB := below_boxV w (Obj.cells #[.string q, .int .u64 id, .string key, .bool dur, .bool red, .string pid, .int .u8 k, .int .u64 n, .string ss, .slice a3 n3 c3, .slice a4 n4 c4, .string body] 35)
  have hX := BoxT.new (c := ⟨⟨q, id, ⟨key, dur, red, pid, app⟩, body⟩, ⟨k, n, ss, a3, n3, c3, a4, n4, c4⟩⟩) w
  obtain ⟨⟨e0, e1, e2, e3, e4, e5⟩, e6, e7, e8, e9, e10, e11⟩ := hX.cells
  simp only [] at e0 e1 e2 e3 e4 e5 e6 e7 e8 e9 e10 e11
  have hd1 := cell_below hd hB
  have HB := Lib.hid hB
  have HKEEP := Lib.hid (show ∀ w', Below (w.alloc (Obj.cells #[.string q, .int .u64 id, .string key, .bool dur, .bool red, .string pid, .int .u8 k, .int .u64 n, .string ss, .slice a3 n3 c3, .slice a4 n4 c4, .string body] 35)).heap.size (w.alloc (Obj.cells #[.string q, .int .u64 id, .string key, .bool dur, .bool red, .string pid, .int .u8 k, .int .u64 n, .string ss, .slice a3 n3 c3, .slice a4 n4 c4, .string body] 35)) w' → w'.cell? ⟨bb, 0, none⟩ = some (.bool d) ∧ w'.cell? ⟨w.heap.size, 0, none⟩ = some (.string q) ∧ w'.cell? ⟨w.heap.size, 1, none⟩ = some (.int .u64 id) ∧ w'.cell? ⟨w.heap.size, 2, none⟩ = some (.string key) ∧ w'.cell? ⟨w.heap.size, 3, none⟩ = some (.bool dur) ∧ w'.cell? ⟨w.heap.size, 4, none⟩ = some (.bool red) ∧ w'.cell? ⟨w.heap.size, 5, none⟩ = some (.string pid) ∧ w'.cell? ⟨w.heap.size, 6, none⟩ = some (.int .u8 k) ∧ w'.cell? ⟨w.heap.size, 7, none⟩ = some (.int .u64 n) ∧ w'.cell? ⟨w.heap.size, 8, none⟩ = some (.string ss) ∧ w'.cell? ⟨w.heap.size, 9, none⟩ = some (.slice a3 n3 c3) ∧ w'.cell? ⟨w.heap.size, 10, none⟩ = some (.slice a4 n4 c4) ∧ w'.cell? ⟨w.heap.size, 11, none⟩ = some (.string body) from fun w' hb' => by
    obtain ⟨⟨e0, e1, e2, e3, e4, e5⟩, e6, e7, e8, e9, e10, e11⟩ := (hX.kept hb' (Nat.le_refl _)).cells
    exact ⟨cell_below hd1 hb', e0, e1, e2, e3, e4, e5, e6, e7, e8, e9, e10, e11⟩)
  generalize putOKB ⟨q, id, ⟨key, dur, red, pid, app⟩, body⟩ = S at *
  generalize msgOK id = b1 at *
  obtain ⟨b2, hb2⟩ : ∃ b2, b2 = decide (id = 0) := ⟨_, rfl⟩
  rw [← hb2]
  have t2 : ((id : Int) == 0) = b2 := by rw [hb2, Bool.eq_iff_iff]; simp
  have HR := Lib.hid (fun w' => right_any d b2 b1 w')
  generalize rightD d b2 b1 = R at *
  clear hb2 h hc hB hX hd
  cases R with
  | false =>
    go_enter Tryz.func76, Tryz.ntmps76
    go_wp2_with fail
    go_quiet (first | (go_at_call 57; with_reducible exact Calls.quiet_of_same (HM.out _)) | (go_at_call 54; with_reducible exact Calls.quiet_of_same (HR.out _)))
    go_wp2_with fail
    go_ret
    exact ⟨rfl, below_drewN HB.out _⟩
  | true =>
    go_enter Tryz.func76, Tryz.ntmps76
    go_wp2_with fail
    go_region_held3 (fun w' => w'.cell? ⟨bb, 0, none⟩ = some (.bool d) ∧ w'.cell? ⟨w.heap.size, 0, none⟩ = some (.string q) ∧ w'.cell? ⟨w.heap.size, 1, none⟩ = some (.int .u64 id) ∧ w'.cell? ⟨w.heap.size, 2, none⟩ = some (.string key) ∧ w'.cell? ⟨w.heap.size, 3, none⟩ = some (.bool dur) ∧ w'.cell? ⟨w.heap.size, 4, none⟩ = some (.bool red) ∧ w'.cell? ⟨w.heap.size, 5, none⟩ = some (.string pid) ∧ w'.cell? ⟨w.heap.size, 6, none⟩ = some (.int .u8 k) ∧ w'.cell? ⟨w.heap.size, 7, none⟩ = some (.int .u64 n) ∧ w'.cell? ⟨w.heap.size, 8, none⟩ = some (.string ss) ∧ w'.cell? ⟨w.heap.size, 9, none⟩ = some (.slice a3 n3 c3) ∧ w'.cell? ⟨w.heap.size, 10, none⟩ = some (.slice a4 n4 c4) ∧ w'.cell? ⟨w.heap.size, 11, none⟩ = some (.string body)) (first | exact HKEEP.out _ (Below.refl _ _) | exact HKEEP.out _ (below_drew1 (Below.refl _ _)) | exact HKEEP.out _ ((below_drew1 (Below.refl _ _)).trans hb7))
      (first
        | (go_at_call 57
           refine (HM.out _).mono ?_
           rintro e w5 ⟨rfl, rfl⟩)
        | (go_at_call 54
           refine (HR.out _).mono ?_
           rintro e w6 ⟨rfl, rfl⟩)
        | (go_at_call 77
           refine (HP.out _ (below_drew1 HB.out)).mono ?_
           rintro e w7 ⟨rfl, hb7⟩))
    all_goals
      go_wp2_with fail
      go_ret
      exact ⟨rfl, (below_drew1 HB.out).trans (hb7.mono (below_drew1 HB.out).size)⟩

set_option maxHeartbeats 2000000 in
theorem indexFunc_put (bb : Nat) (p : PutE → Bool) (cs : List PutC) (A : Option Addr) (c : Nat) (w : World) (hl : RowP w A c cs)
    (hf : ∀ j (hj : j < cs.length) (w' : World), Below w.heap.size w w' → PutAt w' (cs[j]'hj) → Calls Tryz.prog 76 #[putV (cs[j]'hj), .pointer (some ⟨bb, 0, none⟩)] w' fun e w'' => e = .returned (.bool (p (cs[j]'hj).e)) ∧ Below w'.heap.size w' w'') :
    Calls Tryz.prog 94 #[.slice A cs.length c, .func (.func 76) #[] #[.pointer (some ⟨bb, 0, none⟩)]] w fun e w' => ∃ r : Int, e = .returned (.int .i64 r) ∧ decide (0 ≤ r) = (esOf cs).any p ∧ Below w.heap.size w w' := by
  have hlm := hl.lm
  have HF := Lib.hid hf
  clear hf
  go_enter Tryz.func94, Tryz.ntmps94
  go_wp2_with fail
  go_loopw [8] (fun i wr => ∃ j : Nat, j ≤ cs.length ∧ i = .int .i64 j ∧ Below w.heap.size w wr ∧ ∀ q (h' : q < cs.length), q < j → p cs[q].e = false) (fun i _ => cs.length - (intOf i).toNat)
  case atStart => exact ⟨0, by omega, rfl, Below.refl _ _, fun q _ h => absurd h (by omega)⟩
  case round =>
    obtain ⟨j, hj, rfl, hb, hlo⟩ := hrel
    rename World => wj
    by_cases hlt : j < cs.length
    · obtain ⟨d, o, rfl, hd, ⟨e0, e1, e2, e3, e4, e5⟩, e6, e7, e8, e9, e10, e11⟩ := (hl.kept hb (Nat.le_refl _)).at_ j hlt
      have hjl : (j : Int) < (cs.length : Int) := by omega
      have hc := HF.out j hlt wj hb ((hl.kept hb (Nat.le_refl _)).each j hlt)
      unfold putV at hc
      cases hp : p cs[j].e with
      | true =>
        have hfin : (esOf cs).any p = true := List.any_eq_true.2 ⟨_, List.mem_map.2 ⟨_, List.getElem_mem hlt, rfl⟩, hp⟩
        rw [hp] at hc
        have HC := Lib.hid hc
        have HFI := Lib.hid hfin
        clear hc hlo hp hfin
        go_wp2_with fail
        refine HC.out.mono ?_
        rintro e wx ⟨rfl, hx⟩
        go_wp2_with fail
        go_ret
        exact ⟨(j : Int), rfl, by rw [HFI.out]; simp, hb.trans (hx.mono hb.size)⟩
      | false =>
        rw [hp] at hc
        have HC := Lib.hid hc
        have HLO : Hid (∀ q (h' : q < cs.length), q < j + 1 → p cs[q].e = false) := by
          show ∀ q (h' : q < cs.length), q < j + 1 → p cs[q].e = false
          intro q hq hqj
          by_cases hqj2 : q < j
          · exact hlo q hq hqj2
          · obtain rfl : q = j := by omega
            exact hp
        clear hc hlo hp
        go_wp2_with fail
        refine HC.out.mono ?_
        rintro e wx ⟨rfl, hx⟩
        go_wp2_with fail
        go_roundw
        case rel => exact ⟨j + 1, by omega, by go_num, hb.trans (hx.mono hb.size), HLO.out⟩
        case measure => simp [intOf]; omega
    · have hjl : ¬ (j : Int) < (cs.length : Int) := by omega
      have hfin : (esOf cs).any p = false := by
        rw [List.any_eq_false]
        intro x hx
        obtain ⟨c', hc', rfl⟩ := List.mem_map.1 hx
        obtain ⟨q, hq, rfl⟩ := List.getElem_of_mem hc'
        rw [hlo q hq (by omega)]
        simp
      have HFI := Lib.hid hfin
      clear hlo hfin
      go_wp2_with fail
      go_ret
      exact ⟨-1, rfl, by rw [HFI.out]; rfl, hb⟩

theorem containsFunc_put (bb : Nat) (p : PutE → Bool) (cs : List PutC) (A : Option Addr) (c : Nat) (w : World) (hl : RowP w A c cs)
    (hf : ∀ j (hj : j < cs.length) (w' : World), Below w.heap.size w w' → PutAt w' (cs[j]'hj) → Calls Tryz.prog 76 #[putV (cs[j]'hj), .pointer (some ⟨bb, 0, none⟩)] w' fun e w'' => e = .returned (.bool (p (cs[j]'hj).e)) ∧ Below w'.heap.size w' w'') :
    Calls Tryz.prog 78 #[.slice A cs.length c, .func (.func 76) #[] #[.pointer (some ⟨bb, 0, none⟩)]] w fun e w' => e = .returned (.bool ((esOf cs).any p)) ∧ Below w.heap.size w w' := by
  have hi := Lib.hid (indexFunc_put bb p cs A c w hl hf)
  clear hf
  generalize (esOf cs).any p = r at *
  go_enter Tryz.func78, Tryz.ntmps78
  go_wp2_with fail
  refine hi.out.mono ?_
  rintro e w' ⟨x, rfl, hx, hb⟩
  have HX := Lib.hid hx
  clear hx
  go_wp2_with fail
  go_ret
  exact ⟨by rw [← HX.out]; rfl, hb⟩

set_option maxHeartbeats 2000000 in
theorem indexFunc_ref (p : RefE → Bool) (cs : List RefE) (A : Option Addr) (c : Nat) (w : World) (hl : RowR w A c cs)
    (hf : ∀ r (w' : World), RefAt r → Calls Tryz.prog 80 #[refV r] w' fun e w'' => e = .returned (.bool (p r)) ∧ Below w'.heap.size w' w'') :
    Calls Tryz.prog 95 #[.slice A cs.length c, .func (.func 80) #[] #[]] w fun e w' => ∃ r : Int, e = .returned (.int .i64 r) ∧ decide (0 ≤ r) = cs.any p ∧ Below w.heap.size w w' := by
  have hlm := hl.lm
  have HF := Lib.hid hf
  clear hf
  go_enter Tryz.func95, Tryz.ntmps95
  go_wp2_with fail
  go_loopw [8] (fun i wr => ∃ j : Nat, j ≤ cs.length ∧ i = .int .i64 j ∧ Below w.heap.size w wr ∧ ∀ q (h' : q < cs.length), q < j → p cs[q] = false) (fun i _ => cs.length - (intOf i).toNat)
  case atStart => exact ⟨0, by omega, rfl, Below.refl _ _, fun q _ h => absurd h (by omega)⟩
  case round =>
    obtain ⟨j, hj, rfl, hb, hlo⟩ := hrel
    rename World => wj
    by_cases hlt : j < cs.length
    · obtain ⟨d, o, rfl, hd, e0, e1⟩ := (hl.kept hb (Nat.le_refl _)).at_ j hlt
      have hjl : (j : Int) < (cs.length : Int) := by omega
      have hc := HF.out cs[j] wj (hl.each j hlt)
      unfold refV at hc
      cases hp : p cs[j] with
      | true =>
        have hfin : cs.any p = true := List.any_eq_true.2 ⟨_, List.getElem_mem hlt, hp⟩
        rw [hp] at hc
        have HC := Lib.hid hc
        have HFI := Lib.hid hfin
        clear hc hlo hp hfin
        go_wp2_with fail
        refine HC.out.mono ?_
        rintro e wx ⟨rfl, hx⟩
        go_wp2_with fail
        go_ret
        exact ⟨(j : Int), rfl, by rw [HFI.out]; simp, hb.trans (hx.mono hb.size)⟩
      | false =>
        rw [hp] at hc
        have HC := Lib.hid hc
        have HLO : Hid (∀ q (h' : q < cs.length), q < j + 1 → p cs[q] = false) := by
          show ∀ q (h' : q < cs.length), q < j + 1 → p cs[q] = false
          intro q hq hqj
          by_cases hqj2 : q < j
          · exact hlo q hq hqj2
          · obtain rfl : q = j := by omega
            exact hp
        clear hc hlo hp
        go_wp2_with fail
        refine HC.out.mono ?_
        rintro e wx ⟨rfl, hx⟩
        go_wp2_with fail
        go_roundw
        case rel => exact ⟨j + 1, by omega, by go_num, hb.trans (hx.mono hb.size), HLO.out⟩
        case measure => simp [intOf]; omega
    · have hjl : ¬ (j : Int) < (cs.length : Int) := by omega
      have hfin : cs.any p = false := by
        rw [List.any_eq_false]
        intro x hx
        obtain ⟨q, hq, rfl⟩ := List.getElem_of_mem hx
        rw [hlo q hq (by omega)]
        simp
      have HFI := Lib.hid hfin
      clear hlo hfin
      go_wp2_with fail
      go_ret
      exact ⟨-1, rfl, by rw [HFI.out]; rfl, hb⟩

theorem containsFunc_ref (p : RefE → Bool) (cs : List RefE) (A : Option Addr) (c : Nat) (w : World) (hl : RowR w A c cs)
    (hf : ∀ r (w' : World), RefAt r → Calls Tryz.prog 80 #[refV r] w' fun e w'' => e = .returned (.bool (p r)) ∧ Below w'.heap.size w' w'') :
    Calls Tryz.prog 79 #[.slice A cs.length c, .func (.func 80) #[] #[]] w fun e w' => e = .returned (.bool (cs.any p)) ∧ Below w.heap.size w w' := by
  have hi := Lib.hid (indexFunc_ref p cs A c w hl hf)
  clear hf
  generalize cs.any p = r at *
  go_enter Tryz.func79, Tryz.ntmps79
  go_wp2_with fail
  refine hi.out.mono ?_
  rintro e w' ⟨x, rfl, hx, hb⟩
  have HX := Lib.hid hx
  clear hx
  go_wp2_with fail
  go_ret
  exact ⟨by rw [← HX.out]; rfl, hb⟩

end Go.Proofs.YtpmafabphlejeaaGreat
/-
  The contract of isWork.
  Conditions: none but sizes.
-/
namespace Go.Proofs.YtpmafabphlejeaaGreat
open Go.RowKit
set_option linter.unusedVariables false
set_option linter.unusedSimpArgs false
set_option maxRecDepth 100000

def Few (cs : List PutC) : Prop := ∀ j (h : j < cs.length), cntT cs[j].e.p.app ≤ 1000000
open Classical in
noncomputable def wrkB (e : EntE) : Bool := decide (workOK e)
theorem any_not {α : Type} (f : α → Bool) (l : List α) : (!(l.any fun x => !f x)) = l.all f := by
  induction l with
  | nil => rfl
  | cons a l ih => rw [List.any_cons, List.all_cons, ← ih]; cases f a <;> simp
theorem wrkB_eq (e : EntE) : wrkB e = (decide (e.puts.length ≤ 100) && (decide (e.takes.length ≤ 100) && ((!(e.puts.any fun p => !putMayB (decide (e.k = 3)) p)) && (!(e.takes.any fun r => !refMay r))))) := by
  rw [any_not, any_not]
  unfold wrkB workOK
  rw [Bool.eq_iff_iff]
  simp only [decide_eq_true_eq, Bool.and_eq_true, List.all_eq_true, putMayB]

set_option maxHeartbeats 4000000 in
theorem isWork_any (x : EntC) (w : World) (h : ShowsE w x) (hc : Few x.cs) :
    Calls Tryz.prog 58 #[entV x] w fun e w' => e = .returned (.bool (wrkB x.e)) ∧ Below w.heap.size w w' := by
  rw [wrkB_eq]
  have HP := Lib.hid (fun w' (hb : Below w.heap.size w w') bb (hd : ∀ w'', Below w'.heap.size w' w'' → w''.cell? ⟨bb, 0, none⟩ = some (.bool (decide (x.k = 3)))) => containsFunc_put bb (fun p => !putMayB (decide (x.k = 3)) p) x.cs x.A1 x.c1 w' (h.puts.kept hb (Nat.le_refl _)) (fun j hj w'' hb'' hp => isWork1_any bb (decide (x.k = 3)) x.cs[j] w'' (hd _ hb'') hp (hc j hj)))
  have HR := Lib.hid (fun w' (hb : Below w.heap.size w w') => containsFunc_ref (fun r => !refMay r) x.rs x.A2 x.c2 w' (h.takes.kept hb (Nat.le_refl _)) (fun r w'' hr => isNoTake_any r w'' hr))
  have hlm := h.puts.lm
  have hlr := h.takes.lm
  obtain ⟨k, name, n, xf, xg, xh, A1, c1, cs, A2, c2, rs⟩ := x
  unfold entV EntC.e
  simp only [] at HP HR hlm hlr ⊢
  rw [esOf_len]
  have hB := below_boxV w (Obj.cells #[.int .u8 k, .string name, .int .u64 n, .int .u32 xf, .string xg, .string xh, .slice A1 cs.length c1, .slice A2 rs.length c2] 57)
  have hX := BoxE.new (x := ⟨k, name, n, xf, xg, xh, A1, c1, cs, A2, c2, rs⟩) w
  obtain ⟨⟨e0, e1, e2⟩, ⟨e3, e4, e5⟩, e6, e7⟩ := hX.cells
  simp only [] at e0 e1 e2 e3 e4 e5 e6 e7
  have HB := Lib.hid hB
  have HX := Lib.hid hX
  obtain ⟨b1, hb1⟩ : ∃ b1, b1 = decide (cs.length ≤ 100) := ⟨_, rfl⟩
  obtain ⟨b2, hb2⟩ : ∃ b2, b2 = decide (rs.length ≤ 100) := ⟨_, rfl⟩
  obtain ⟨d, hd⟩ : ∃ d, d = decide (k = 3) := ⟨_, rfl⟩
  have t1 : decide ((100 : Int) < (cs.length : Int)) = !b1 := by rw [hb1, Bool.eq_iff_iff]; simp; omega
  have t2 : decide ((100 : Int) < (rs.length : Int)) = !b2 := by rw [hb2, Bool.eq_iff_iff]; simp; omega
  have t3 : ((k : Int) == 3) = d := by rw [hd, Bool.eq_iff_iff]; simp; omega
  rw [← hd] at HP
  rw [← hb1, ← hb2, ← hd]
  generalize (esOf cs).any (fun p => !putMayB d p) = P1 at *
  generalize rs.any (fun r => !refMay r) = P2 at *
  clear hb1 hb2 hd h hc hB hX
  cases b1 with
  | false =>
    go_enter Tryz.func58, Tryz.ntmps58
    go_wp2_with fail
    go_ret
    exact ⟨rfl, HB.out⟩
  | true =>
  cases b2 with
  | false =>
    go_enter Tryz.func58, Tryz.ntmps58
    go_wp2_with fail
    go_ret
    exact ⟨rfl, HB.out⟩
  | true =>
  go_enter Tryz.func58, Tryz.ntmps58
  go_wp2_with fail
  have hB2 := below_boxV (w.alloc (Obj.cells #[.int .u8 k, .string name, .int .u64 n, .int .u32 xf, .string xg, .string xh, .slice A1 cs.length c1, .slice A2 rs.length c2] 57)) (Obj.cells #[.bool d] 4)
  have hcl : ((w.alloc (Obj.cells #[.int .u8 k, .string name, .int .u64 n, .int .u32 xf, .string xg, .string xh, .slice A1 cs.length c1, .slice A2 rs.length c2] 57)).alloc (Obj.cells #[.bool d] 4)).cell? ⟨w.heap.size + 1, 0, none⟩ = some (.bool d) := by
    have := cell_of_row _ _ 0 _ 4 (0, 0) (heap_alloc_new (w.alloc (Obj.cells #[.int .u8 k, .string name, .int .u64 n, .int .u32 xf, .string xg, .string xh, .slice A1 cs.length c1, .slice A2 rs.length c2] 57)) (Obj.cells #[.bool d] 4))
    rw [World.size_alloc] at this
    exact this
  have hB02 := HB.out.trans (hB2.mono HB.out.size)
  have hX2 := HX.out.kept hB2 (Nat.le_refl _)
  have HPX := Lib.hid (HP.out _ hB02 (w.heap.size + 1) (fun w'' hb'' => cell_below hcl hb''))
  refine HPX.out.mono ?_
  rintro e w3 ⟨rfl, hb3⟩
  obtain ⟨_, _, _, e7'⟩ := (hX2.kept hb3 (Nat.le_refl _)).cells
  simp only [] at e7'
  have HB3 := Lib.hid (hB02.trans (hb3.mono hB02.size))
  clear hb3 hX2 hB02 hB2 hcl HPX
  cases P1 with
  | true =>
    go_wp2_with fail
    go_ret
    exact ⟨rfl, HB3.out⟩
  | false =>
    go_wp2_with fail
    refine (HR.out _ HB3.out).mono ?_
    rintro e w4 ⟨rfl, hb4⟩
    go_wp2_with fail
    go_ret
    exact ⟨rfl, HB3.out.trans (hb4.mono HB3.out.size)⟩

end Go.Proofs.YtpmafabphlejeaaGreat
/-
  How the walk runs == of names.
  Conditions: none.
-/
namespace Go.Proofs.YtpmafabphlejeaaGreat
open Go.RowKit
set_option linter.unusedVariables false
set_option linter.unusedSimpArgs false

theorem xidGuard : Tryz.prog.eqGuardType Tryz.prog.depth 55 = false := by kernel_rfl
theorem xidFields : Tryz.prog.underlying 55 = some (.struct (Tryz.prog.fieldsOf 55)) := by kernel_rfl
theorem xidHeld : Tryz.prog.stoodInHeld 55 = false := by kernel_rfl
theorem toList_beq (a b : ByteArray) : (a.toList == b.toList) = decide (a = b) := by
  by_cases h : a = b
  · subst h; simp
  · rw [decide_eq_false h]
    simpa using toList_ne h
theorem run_eq_xid (a b : Nat) (g h g' h' : ByteArray) (w : World) : (Op.equalIn 10000 55 (.agg #[.int .u32 (a : Int), .string g, .string h]) (.agg #[.int .u32 (b : Int), .string g', .string h'])).run Tryz.prog w = .ok (decide ((a, g, h) = (b, g', h'))) w := by
  rw [run_equalIn_agg w 9999 55 _ _ xidFields xidHeld]
  have hm : (Tryz.prog.fieldsOf 55).toList.map (fun f => (f.type, f.offset, f.name == "_")) = [(53, 0, false), (9, 1, false), (9, 2, false)] := by kernel_rfl
  generalize (Tryz.prog.fieldsOf 55).toList = fs at hm ⊢
  obtain ⟨f, t, rfl, hf, ht⟩ := List.map_eq_cons_iff.1 hm
  obtain ⟨f', t2, rfl, hg, ht2⟩ := List.map_eq_cons_iff.1 ht
  obtain ⟨f'', t3, rfl, hh, ht3⟩ := List.map_eq_cons_iff.1 ht2
  obtain rfl : t3 = [] := List.map_eq_nil_iff.1 ht3
  simp only [Prod.mk.injEq] at hf hg hh
  obtain ⟨f1, f2, f3⟩ := hf
  obtain ⟨g1, g2, g3⟩ := hg
  obtain ⟨h1, h2, h3⟩ := hh
  have f4 : ¬ f.name = "_" := by simpa using f3
  have g4 : ¬ f'.name = "_" := by simpa using g3
  have h4 : ¬ f''.name = "_" := by simpa using h3
  have e1 : ∀ x y : Nat, (Op.equalIn 9999 53 (.int .u32 (x : Int)) (.int .u32 (y : Int))).run Tryz.prog w = .ok ((x : Int) == (y : Int)) w := fun x y => run_equalIn_int w 9998 53 .u32 .u32 _ _ Tryz.underlying53
  have e2 : ∀ x y : ByteArray, (Op.equalIn 9999 9 (.string x) (.string y)).run Tryz.prog w = .ok (decide (x = y)) w := fun x y => by rw [← toList_beq]; exact run_equalIn_string w 9998 9 _ _ Tryz.underlying9
  by_cases k1 : a = b
  · by_cases k2 : g = g'
    · by_cases k3 : h = h'
      · simp [Op.eqFields, part, f1, f2, f4, g1, g2, g4, h1, h2, h4, e1, e2, k1, k2, k3]
      · simp [Op.eqFields, part, f1, f2, f4, g1, g2, g4, h1, h2, h4, e1, e2, k1, k2, k3]
    · simp [Op.eqFields, part, f1, f2, f4, g1, g2, g4, h1, h2, h4, e1, e2, k1, k2]
  · simp [Op.eqFields, part, f1, f2, f4, g1, g2, g4, h1, h2, h4, e1, e2, k1]; intro h; omega

theorem run_eq_xid0 (a : Nat) (g h : ByteArray) (w : World) : (Op.equalIn 10000 55 (.agg #[.int .u32 (a : Int), .string g, .string h]) (.agg #[.int .u32 0, .string ⟨#[]⟩, .string ⟨#[]⟩])).run Tryz.prog w = .ok (decide ((a, g, h) = (0, ⟨#[]⟩, ⟨#[]⟩))) w := run_eq_xid a 0 g h ⟨#[]⟩ ⟨#[]⟩ w

end Go.Proofs.YtpmafabphlejeaaGreat
