/-
  The contract of the document's own Sorted.
  Conditions: none but sizes.
-/
import Derived.Test.YtalcfglcbpkebaaDoorSoA
import Derived.Test.YtalcfglcbpkebaaDoorSoB
import Derived.Deep.RegionHeld3
namespace Go.Proofs.YtalcfglcbpkebaaDoor
open Go.RowKit
set_option linter.unusedVariables false
set_option linter.unusedSimpArgs false

def cmpV (x y : XV) : Int := cmpX x.1 y.1 x.2.1 x.2.2 y.2.1 y.2.2
def okV (x : XV) : Bool := decide (mayX x.2.1 x.2.2)
theorem cmpV_is : IsCmp cmpV where
  rng a b := by unfold cmpV; rw [cmpX_key]; exact cmpK_is.rng _ _
  anti a b := by unfold cmpV; rw [cmpX_key, cmpX_key]; exact cmpK_is.anti _ _
  eq0 a b h := by
    unfold cmpV at h; rw [cmpX_key] at h
    have := keyX_inj (cmpK_is.eq0 _ _ h)
    exact Prod.ext this.1 (Prod.ext this.2.1 this.2.2)
  tr a b d h1 h2 := by unfold cmpV at *; rw [cmpX_key] at *; exact cmpK_is.tr _ _ _ h1 h2
/-- A name whose parts are no longer than memory lets them be. -/
def xOK (x : XV) : Prop := x.1 < 4294967296 ∧ x.2.1.size ≤ 140737488351232 ∧ x.2.2.size ≤ 140737488351232

theorem sort_step (l : List XV) (k : Nat) (h : k < l.length) : sortD cmpV okV (l.take (k + 1)) = if okV l[k] then insD cmpV l[k] (sortD cmpV okV (l.take k)) else sortD cmpV okV (l.take k) := by
  unfold sortD
  rw [List.take_succ_eq_append_getElem h, List.foldl_append]
  rfl
theorem ins_at {c : XV → XV → Int} (x : XV) : ∀ (r : List XV) (k : Nat), k ≤ r.length → (∀ q (h : q < r.length), q < k → c r[q] x < 0) → insD c x r = r.take k ++ insD c x (r.drop k)
  | r, 0, _, _ => by simp
  | [], k + 1, h, _ => absurd h (by simp)
  | y :: r, k + 1, h, hl => by
    have h0 : c y x < 0 := hl 0 (by simp) (by omega)
    rw [insD, if_pos h0, List.take_succ_cons, List.drop_succ_cons, List.cons_append, ins_at x r k (by simpa using h) (fun q hq hk => hl (q + 1) (by simpa using hq) (by omega))]
theorem ins_end {c : XV → XV → Int} (x : XV) (r : List XV) (hl : ∀ q (h : q < r.length), c r[q] x < 0) : insD c x r = r ++ [x] := by
  rw [ins_at x r r.length (Nat.le_refl _) (fun q h _ => hl q h)]
  simp [insD]
theorem ins_here {c : XV → XV → Int} (x : XV) (r : List XV) (k : Nat) (hk : k < r.length) (hl : ∀ q (h : q < r.length), q < k → c r[q] x < 0) (h1 : ¬ c r[k] x < 0) (h2 : r[k] ≠ x) : insD c x r = r.take k ++ ([x] ++ r.drop k) := by
  rw [ins_at x r k (by omega) hl, List.drop_eq_getElem_cons hk, insD, if_neg h1, if_neg h2]
  rfl
theorem ins_there {c : XV → XV → Int} (x : XV) (r : List XV) (k : Nat) (hk : k < r.length) (hl : ∀ q (h : q < r.length), q < k → c r[q] x < 0) (h1 : ¬ c r[k] x < 0) (h2 : r[k] = x) : insD c x r = r := by
  rw [ins_at x r k (by omega) hl, List.drop_eq_getElem_cons hk, insD, if_neg h1, if_pos h2, ← List.drop_eq_getElem_cons hk, List.take_append_drop]

theorem qcheck_any (x : XV) (hx : xOK x) (w : World) : Calls Tryd.prog 12 #[.agg #[.int .u32 (x.1 : Nat), .string x.2.1, .string x.2.2]] w fun e w' => e = .returned (.int .i64 (if okV x then 0 else 40)) ∧ Below w.heap.size w w' := by
  obtain ⟨h1, h2, h3⟩ := hx
  unfold okV
  by_cases hm : mayX x.2.1 x.2.2
  · simp only [hm, decide_true, if_true]
    exact qcheck_ok _ _ _ w hm
  · simp only [hm, decide_false]
    exact qcheck_no _ _ _ w hm (by omega) (by omega)
theorem qcompareV (x y : XV) (hx : xOK x) (hy : xOK y) (w : World) : Calls Tryd.prog 14 #[.agg #[.int .u32 (x.1 : Nat), .string x.2.1, .string x.2.2], .agg #[.int .u32 (y.1 : Nat), .string y.2.1, .string y.2.2]] w fun e w' => e = .returned (.int .i64 (cmpV x y)) ∧ Below w.heap.size w w' := by
  obtain ⟨h1, h2, h3⟩ := hx
  obtain ⟨k1, k2, k3⟩ := hy
  unfold cmpV
  rw [cmpX_eq]
  exact qcompare_any _ _ _ _ _ _ w (by omega) (by omega) (by omega) (by omega)

section
variable {w : World} {e : TypeId} {base n c : Nat} {A : Option Addr} {l : List XV}
theorem ShowsG.empty {α : Type} (C : Code α) (w : World) (d : Nat) (A : Option Addr) (c : Nat) (hc : c ≤ maxLen) : ShowsG C w d (.slice A 0 c) [] := ⟨A, c, rfl, by simp, hc, fun h => absurd h (by simp)⟩
theorem own_cells (h : OwnG xidC e w base (.slice A n c) l) (hp : 0 < n) : ∃ b, A = some ⟨b, 0, none⟩ ∧ base ≤ b ∧ b < w.heap.size := by
  obtain ⟨b, h1, h2, h3, _⟩ := h.at_ hp
  exact ⟨b, h1, h2, h3⟩
theorem own_cell {b : Nat} (h : OwnG xidC e w base (.slice (some ⟨b, 0, none⟩) n c) l) {k : Nat} (hk : k < l.length) :
    w.cell? ⟨b, k * 3, none⟩ = some (.int .u32 (l[k].1 : Nat)) ∧ w.cell? ⟨b, k * 3 + 1, none⟩ = some (.string l[k].2.1) ∧ w.cell? ⟨b, k * 3 + 2, none⟩ = some (.string l[k].2.2) := by
  obtain ⟨b', h1, _, _, _, h5⟩ := h.at_ (by have := h.len_.1; omega)
  cases h1
  exact ⟨h5 k hk 0 (by decide), h5 k hk 1 (by decide), h5 k hk 2 (by decide)⟩
end

set_option maxRecDepth 100000 in
set_option maxHeartbeats 8000000 in
theorem qsorted_any (A : Option Addr) (c n d : Nat) (l : List XV) (w : World) (hn : l.length = n) (hl : ShowsG xidC w d (.slice A n c) l) (hu : ∀ x ∈ l, xOK x) (hb : n ≤ 1000) :
    Calls Tryd.prog 27 #[.slice A n c] w fun e w' => ∃ v, e = .returned v ∧ OwnG xidC 24 w' w.heap.size v (sortD cmpV okV l) ∧ Below w.heap.size w w' := by
  go_enter Tryd.func27, Tryd.ntmps27
  go_wp2_with fail
  go_loopw [3, 4, 5, 6] (fun out i _ _ wr => ∃ (k : Nat) (r : List XV), k ≤ n ∧ i = .int .i64 k ∧ r = sortD cmpV okV (l.take k) ∧ OwnG xidC 24 wr w.heap.size out r ∧ Below w.heap.size w wr) (fun _ i _ _ _ => n - (intOf i).toNat)
  case atStart => exact ⟨0, [], by omega, rfl, by simp [sortD], OwnG.nil_ _ _ _ _, Below.refl _ _⟩
  case round =>
    obtain ⟨k, r, hk, rfl, hr, ho, hbw⟩ := hrel
    rename World => wo
    by_cases hlt : k < n
    · have hkl : k < l.length := by omega
      obtain ⟨o, rfl, hdw, hcl0⟩ := hl.at_ (by omega)
      obtain ⟨x, hx⟩ : ∃ x, x = l[k] := ⟨_, rfl⟩
      have hxl : x ∈ l := by rw [hx]; exact List.getElem_mem hkl
      have hru : ∀ y ∈ r, xOK y := fun y hy => hu y (List.mem_of_mem_take ((sort_both cmpV_is okV (l.take k)).2 y |>.1 (hr ▸ hy)).1)
      have hrl : r.length ≤ k := by
        rw [hr]
        have := sort_length cmpV_is okV (l.take k)
        rw [List.length_take] at this
        omega
      have hst := sort_step l k hkl
      rw [← hr, ← hx] at hst
      have hch := Lib.hid (fun w => qcheck_any x (hu x hxl) w)
      have hcp := fun y (hy : xOK y) w => qcompareV y x hy (hu x hxl) w
      have CX := Lib.hid (show ∀ w', Below w.heap.size w w' → w'.cell? ⟨d, o + k * 3, none⟩ = some (.int .u32 (x.1 : Nat)) ∧ w'.cell? ⟨d, o + k * 3 + 1, none⟩ = some (.string x.2.1) ∧ w'.cell? ⟨d, o + k * 3 + 2, none⟩ = some (.string x.2.2) from fun w' hb' => by
        obtain ⟨o2, e2, _, hc2⟩ := (hl.below' hb' (Nat.le_refl _)).at_ (by omega)
        cases e2
        rw [hx]
        exact ⟨xid_cell0 hc2 hkl, xid_cell1 hc2 hkl, xid_cell2 hc2 hkl⟩)
      clear hx hr hcl0
      obtain ⟨e0, e1, e2⟩ := CX.out _ hbw
      have hkn : (k : Int) < (n : Int) := by omega
      cases hok : okV x with
      | false =>
        rw [hok] at hst hch
        simp only [Bool.false_eq_true, if_false] at hst hch
        have HST := Lib.hid hst
        clear hst hcp
        obtain ⟨f, g, h⟩ := x
        dsimp only at *
        go_wp2_with fail
        refine (hch.out _).mono ?_
        rintro e wb ⟨rfl, hbb⟩
        go_wp2_with fail
        go_roundw
        case rel => exact ⟨k + 1, r, by omega, by go_num, HST.out.symm, ho.below hbb (Nat.le_refl _), hbw.trans (hbb.mono hbw.size)⟩
        case measure => simp [intOf]; omega
      | true =>
        rw [hok] at hst hch
        simp only [if_true] at hst hch
        have HST := Lib.hid hst
        have HCP := Lib.hid hcp
        have HRU := Lib.hid hru
        clear hst hcp hru
        obtain ⟨f, g, h⟩ := x
        dsimp only at *
        go_wp2_with fail
        refine (hch.out _).mono ?_
        rintro e wb ⟨rfl, hbb⟩
        have hob := ho.below hbb (Nat.le_refl _)
        have hbo := hbw.trans (hbb.mono hbw.size)
        clear e0 e1 e2 ho hbw hbb hch
        obtain ⟨Ar, cr, rfl, hcr, hcm⟩ := hob.form
        go_wp2_with fail
        go_loopw [5] (fun at_ wr => ∃ j : Nat, j ≤ r.length ∧ at_ = .int .i64 j ∧ Below wb.heap.size wb wr ∧ ∀ q (h' : q < r.length), q < j → cmpV r[q] (f, g, h) < 0) (fun at_ _ => r.length - (intOf at_).toNat)
        case atStart => exact ⟨0, by omega, rfl, Below.refl _ _, fun q _ h => absurd h (by omega)⟩
        case round =>
          obtain ⟨j, hj, rfl, hbj, hlo⟩ := hrel
          rename World => wj
          by_cases hje : j < r.length
          · obtain ⟨br, rfl, hbr, hbrl⟩ := own_cells hob (by omega)
            obtain ⟨y, hy⟩ : ∃ y, y = r[j] := ⟨_, rfl⟩
            have CY := Lib.hid (show ∀ w', Below wb.heap.size wb w' → (w'.cell? ⟨d, o + k * 3, none⟩ = some (.int .u32 f) ∧ w'.cell? ⟨d, o + k * 3 + 1, none⟩ = some (.string g) ∧ w'.cell? ⟨d, o + k * 3 + 2, none⟩ = some (.string h)) ∧
                w'.cell? ⟨br, j * 3, none⟩ = some (.int .u32 (y.1 : Nat)) ∧ w'.cell? ⟨br, j * 3 + 1, none⟩ = some (.string y.2.1) ∧ w'.cell? ⟨br, j * 3 + 2, none⟩ = some (.string y.2.2) from fun w' hb' => ⟨CX.out _ (hbo.trans (hb'.mono hbo.size)), by rw [hy]; exact own_cell (hob.below hb' (Nat.le_refl _)) hje⟩)
            have HC := Lib.hid (show ∀ w', Below wb.heap.size wb w' → Calls Tryd.prog 14 #[.agg #[.int .u32 (y.1 : Nat), .string y.2.1, .string y.2.2], .agg #[.int .u32 (f : Nat), .string g, .string h]] w' fun e w'' => e = .returned (.int .i64 (cmpV y (f, g, h))) ∧ Below wb.heap.size wb w'' from fun w' hb' =>
              (HCP.out y (HRU.out y (by rw [hy]; exact List.getElem_mem hje)) w').mono fun _ _ ⟨he, hbx⟩ => ⟨he, hb'.trans (hbx.mono hb'.size)⟩)
            have hjr : (j : Int) < (r.length : Int) := by omega
            have hbjd : Below wb.heap.size wb wj.drew := below_drew1 hbj
            obtain ⟨⟨e0, e1, e2⟩, e3, e4, e5⟩ := CY.out _ hbj
            by_cases hcv : cmpV y (f, g, h) < 0
            · have hd : decide (cmpV y (f, g, h) < 0) = true := by simpa using hcv
              have HLO : Hid (∀ q (h' : q < r.length), q < j + 1 → cmpV r[q] (f, g, h) < 0) := by
                show ∀ q (h' : q < r.length), q < j + 1 → cmpV r[q] (f, g, h) < 0
                intro q hq hqj
                by_cases hqj2 : q < j
                · exact hlo q hq hqj2
                · obtain rfl : q = j := by omega
                  rw [← hy]
                  exact hcv
              generalize cmpV y (f, g, h) = cv at *
              clear hlo hcv hy
              obtain ⟨f', g', h'⟩ := y
              dsimp only at *
              go_wp2_with fail
              go_region_held3 (fun w' => (w'.cell? ⟨d, o + k * 3, none⟩ = some (.int .u32 f) ∧ w'.cell? ⟨d, o + k * 3 + 1, none⟩ = some (.string g) ∧ w'.cell? ⟨d, o + k * 3 + 2, none⟩ = some (.string h)) ∧
                w'.cell? ⟨br, j * 3, none⟩ = some (.int .u32 f') ∧ w'.cell? ⟨br, j * 3 + 1, none⟩ = some (.string g') ∧ w'.cell? ⟨br, j * 3 + 2, none⟩ = some (.string h')) (exact CY.out _ (by assumption))
                (first
                  | (go_at_call 14; refine (HC.out _ (by assumption)).mono ?_; rintro e wx ⟨rfl, hx⟩))
              rename_i K hK hh
              refine hK _ _ ?_
              clear hK hh e0 e1 e2 e3 e4 e5
              go_wp2_with fail
              go_roundw
              case rel => exact ⟨j + 1, by omega, by go_num, hx, HLO.out⟩
              case measure => simp [intOf]; omega
            · have hd : decide (cmpV y (f, g, h) < 0) = false := by simpa using hcv
              by_cases heq : y = (f, g, h)
              · have HE : Hid (r = sortD cmpV okV (l.take (k + 1))) := by
                  show r = sortD cmpV okV (l.take (k + 1))
                  rw [HST.out, ins_there (f, g, h) r j hje hlo (by rw [← hy]; exact hcv) (by rw [← hy]; exact heq)]
                have hd2 : decide ((y.1, y.2.1, y.2.2) = (f, g, h)) = true := by rw [show (y.1, y.2.1, y.2.2) = y from rfl]; simpa using heq
                generalize cmpV y (f, g, h) = cv at *
                clear hlo hcv hy heq
                obtain ⟨f', g', h'⟩ := y
                dsimp only at *
                have hE2 := fun w => run_eq_xid f' f g' h' g h w
                rw [hd2] at hE2
                have hGd := xidGuard
                clear hd2
                go_wp2_with fail
                go_region_held3 (fun w' => (w'.cell? ⟨d, o + k * 3, none⟩ = some (.int .u32 f) ∧ w'.cell? ⟨d, o + k * 3 + 1, none⟩ = some (.string g) ∧ w'.cell? ⟨d, o + k * 3 + 2, none⟩ = some (.string h)) ∧
                  w'.cell? ⟨br, j * 3, none⟩ = some (.int .u32 f') ∧ w'.cell? ⟨br, j * 3 + 1, none⟩ = some (.string g') ∧ w'.cell? ⟨br, j * 3 + 2, none⟩ = some (.string h')) (exact CY.out _ (by assumption))
                  (first
                    | (go_at_call 14; refine (HC.out _ (by assumption)).mono ?_; rintro e wx ⟨rfl, hx⟩))
                rename_i K hK hh
                refine hK _ _ ?_
                clear hK hh e0 e1 e2 e3 e4 e5
                obtain ⟨⟨e0, e1, e2⟩, e3, e4, e5⟩ := CY.out _ hx
                go_wp2_with fail
                go_quiet (fail)
                go_wp2_with fail
                have hbq := below_drewN hx nq
                go_roundw
                case rel => exact ⟨k + 1, r, by omega, by go_num, HE.out, hob.below hbq (Nat.le_refl _), hbo.trans (hbq.mono hbo.size)⟩
                case measure => simp [intOf]; omega
              · have HE : Hid (r.take j ++ ([(f, g, h)] ++ r.drop j) = sortD cmpV okV (l.take (k + 1))) := by
                  show r.take j ++ ([(f, g, h)] ++ r.drop j) = sortD cmpV okV (l.take (k + 1))
                  rw [HST.out, ins_here (f, g, h) r j hje hlo (by rw [← hy]; exact hcv) (by rw [← hy]; exact heq)]
                have hd2 : decide ((y.1, y.2.1, y.2.2) = (f, g, h)) = false := by rw [show (y.1, y.2.1, y.2.2) = y from rfl]; simpa using heq
                generalize cmpV y (f, g, h) = cv at *
                clear hlo hcv hy heq
                obtain ⟨f', g', h'⟩ := y
                dsimp only at *
                have hE2 := fun w => run_eq_xid f' f g' h' g h w
                rw [hd2] at hE2
                have hGd := xidGuard
                clear hd2
                go_wp2_with fail
                go_region_held3 (fun w' => (w'.cell? ⟨d, o + k * 3, none⟩ = some (.int .u32 f) ∧ w'.cell? ⟨d, o + k * 3 + 1, none⟩ = some (.string g) ∧ w'.cell? ⟨d, o + k * 3 + 2, none⟩ = some (.string h)) ∧
                  w'.cell? ⟨br, j * 3, none⟩ = some (.int .u32 f') ∧ w'.cell? ⟨br, j * 3 + 1, none⟩ = some (.string g') ∧ w'.cell? ⟨br, j * 3 + 2, none⟩ = some (.string h')) (exact CY.out _ (by assumption))
                  (first
                    | (go_at_call 14; refine (HC.out _ (by assumption)).mono ?_; rintro e wx ⟨rfl, hx⟩))
                rename_i K hK hh
                refine hK _ _ ?_
                clear hK hh e0 e1 e2 e3 e4 e5
                obtain ⟨⟨e0, e1, e2⟩, e3, e4, e5⟩ := CY.out _ hx
                go_wp2_with fail
                go_quiet (fail)
                have hbq := below_drewN hx nq
                generalize wx.drewN nq = wq at *
                clear e0 e1 e2 e3 e4 e5 CY HC hx hbj hbjd
                have hbWQ := hbo.trans (hbq.mono hbo.size)
                obtain ⟨q1, _, hso⟩ := (hob.below hbq (Nat.le_refl _)).shows
                have hjc : ¬ cr = j := by omega
                have hjc2 : (j : Int) ≤ (cr : Int) := by omega
                have hje2 : (j : Int) ≤ (r.length : Int) := by omega
                have s1 := hso.head (k := j) hj
                have hr8 : r.length ≤ 1000 := by omega
                go_wp2_with (first
                  | (at_builtin
                     refine wpList_appendG xidC _ rfl (.tmp 52) (.tmp 55) 51 rfl wq.heap.size 24 (.agg #[.int .u32 0, .string ⟨#[]⟩, .string ⟨#[]⟩]) 40 Tryd.underlying51 infoXid rfl (.slice none 0 0) [] rfl (OwnG.nil_ _ _ _ _) q1 _ (r.take j) rfl s1 (by simp; omega) (by simp; omega) (Nat.le_refl _) ?_
                     intro v4 w4 ho4 hg4
                     rw [List.nil_append] at ho4
                     have hb4 : Below wq.heap.size wq w4 := (Below.refl _ _).grown hg4 (Nat.le_refl _) (by simp [Value.ownBlock])
                     obtain ⟨e0, e1, e2⟩ := CX.out _ (hbWQ.trans (hb4.mono hbWQ.size)))
                  | (at_builtin
                     refine wpList_appendG xidC _ rfl (.tmp 57) (.tmp 62) 51 rfl wq.heap.size 24 (.agg #[.int .u32 0, .string ⟨#[]⟩, .string ⟨#[]⟩]) 40 Tryd.underlying51 infoXid rfl v4 (r.take j) rfl (ho4.alloc_ _) w4.heap.size (.slice (some ⟨w4.heap.size, 0, none⟩) 1 1) [(f, g, h)] rfl (ShowsG.lit (C := xidC) [(f, g, h)] (by simp [Code.all, xidC]) (by simp [maxLen])) (by simp; omega) (by simp; omega) (by have := hb4.size; simp; omega) ?_
                     intro v5 w5 ho5 hg5
                     have hb5 : Below wq.heap.size wq w5 := (hb4.alloc hb4.size _).grown hg5 (by have := hb4.size; simp; omega) (fun q hq => (ho4.block q hq).1))
                  | (at_builtin
                     refine wpList_appendG xidC _ rfl (.tmp 64) (.tmp 67) 51 rfl wq.heap.size 24 (.agg #[.int .u32 0, .string ⟨#[]⟩, .string ⟨#[]⟩]) 40 Tryd.underlying51 infoXid rfl v5 ((r.take j) ++ [(f, g, h)]) rfl ho5 q1 _ (r.drop j) rfl ((hso.below' hb5 (Nat.le_refl _)).tail' hj _ (fun _ => by simp [Addr.add, xidC]) (by omega) (by omega)) (by simp; omega) (by simp; omega) hb5.size ?_
                     intro v6 w6 ho6 hg6))
                rw [List.append_assoc] at ho6
                have hb6 : Below wq.heap.size wq w6 := hb5.grown hg6 hb5.size (fun q hq => (ho5.block q hq).1)
                go_roundw
                case rel => exact ⟨k + 1, _, by omega, by go_num, HE.out, ho6.mono hbWQ.size, hbWQ.trans (hb6.mono hbWQ.size)⟩
                case measure => simp [intOf]; omega
          · obtain rfl : j = r.length := by omega
            have HE : Hid (r ++ [(f, g, h)] = sortD cmpV okV (l.take (k + 1))) := by
              show r ++ [(f, g, h)] = sortD cmpV okV (l.take (k + 1))
              rw [HST.out, ins_end (f, g, h) r (fun q hq => hlo q hq hq)]
            clear hlo
            go_wp2_with fail
            go_quiet (fail)
            have hbj1 := below_drewN hbj nq
            generalize wj.drewN nq = wj1 at *
            go_wp2_with fail
            go_quiet (fail)
            have hbq := below_drewN hbj1 nq
            generalize wj1.drewN nq = wq at *
            clear hbj hbj1
            have hbWQ := hbo.trans (hbq.mono hbo.size)
            obtain ⟨q1, _, s1⟩ := (hob.below hbq (Nat.le_refl _)).shows
            have hje2 : (r.length : Int) ≤ (cr : Int) := by omega
            have hr8 : r.length ≤ 1000 := by omega
            by_cases hca : cr = r.length
            case' pos => subst hca
            case' neg => have hcb : ¬ cr ≤ r.length := by omega
            all_goals
              go_wp2_with (first
                | (at_builtin
                   refine wpList_appendG xidC _ rfl (.tmp 52) (.tmp 55) 51 rfl wq.heap.size 24 (.agg #[.int .u32 0, .string ⟨#[]⟩, .string ⟨#[]⟩]) 40 Tryd.underlying51 infoXid rfl (.slice none 0 0) [] rfl (OwnG.nil_ _ _ _ _) q1 _ r rfl s1 (by simp; omega) (by simp; omega) (Nat.le_refl _) ?_
                   intro v4 w4 ho4 hg4
                   rw [List.nil_append] at ho4
                   have hb4 : Below wq.heap.size wq w4 := (Below.refl _ _).grown hg4 (Nat.le_refl _) (by simp [Value.ownBlock])
                   obtain ⟨e0, e1, e2⟩ := CX.out _ (hbWQ.trans (hb4.mono hbWQ.size)))
                | (at_builtin
                   refine wpList_appendG xidC _ rfl (.tmp 57) (.tmp 62) 51 rfl wq.heap.size 24 (.agg #[.int .u32 0, .string ⟨#[]⟩, .string ⟨#[]⟩]) 40 Tryd.underlying51 infoXid rfl v4 r rfl (ho4.alloc_ _) w4.heap.size (.slice (some ⟨w4.heap.size, 0, none⟩) 1 1) [(f, g, h)] rfl (ShowsG.lit (C := xidC) [(f, g, h)] (by simp [Code.all, xidC]) (by simp [maxLen])) (by simp; omega) (by simp; omega) (by have := hb4.size; simp; omega) ?_
                   intro v5 w5 ho5 hg5
                   have hb5 : Below wq.heap.size wq w5 := (hb4.alloc hb4.size _).grown hg5 (by have := hb4.size; simp; omega) (fun q hq => (ho4.block q hq).1))
                | (at_builtin
                   refine wpList_appendG xidC _ rfl (.tmp 64) (.tmp 67) 51 rfl wq.heap.size 24 (.agg #[.int .u32 0, .string ⟨#[]⟩, .string ⟨#[]⟩]) 40 Tryd.underlying51 infoXid rfl v5 (r ++ [(f, g, h)]) rfl ho5 q1 _ [] rfl (ShowsG.empty _ _ _ _ _ (by simp only [maxLen] at hcm ⊢; omega)) (by simp; omega) (by simp; omega) hb5.size ?_
                   intro v6 w6 ho6 hg6))
              rw [List.append_nil] at ho6
              have hb6 : Below wq.heap.size wq w6 := hb5.grown hg6 hb5.size (fun q hq => (ho5.block q hq).1)
              go_roundw
              case rel => exact ⟨k + 1, _, by omega, by go_num, HE.out, ho6.mono hbWQ.size, hbWQ.trans (hb6.mono hbWQ.size)⟩
              case measure => simp [intOf]; omega
    · rw [show k = n by omega, List.take_of_length_le (by omega)] at hr
      go_wp2_with fail
      go_ret
      exact ⟨_, rfl, hr ▸ ho, hbw⟩

end Go.Proofs.YtalcfglcbpkebaaDoor
