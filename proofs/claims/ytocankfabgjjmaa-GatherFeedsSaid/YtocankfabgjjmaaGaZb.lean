/-
  The contract of the document's own open for frames.
  Conditions: none but sizes.
-/
import Derived.Test.YtocankfabgjjmaaGaY
import Derived.Test.YtocankfabgjjmaaGaA
import Derived.Test.YtocankfabgjjmaaFrH
namespace Go.Proofs.Ytocankfabgjjmaa
open Go.RowKit
set_option linter.unusedVariables false
set_option linter.unusedSimpArgs false

theorem atQ_snoc (L : List Fr) (q : Plc) (j : Nat) (hj : j < L.length) : atQ (L.take (j + 1)) q = atQ (L.take j) q ++ (if L[j].plc = q then [L[j]] else []) := by
  rw [List.take_succ_eq_append_getElem hj]
  unfold atQ
  rw [List.filter_append]
  congr 1
  by_cases h : L[j].plc = q <;> simp [h]
theorem atQ_le (L : List Fr) (q : Plc) (j : Nat) : (atQ (L.take j) q).length ≤ j :=
  Nat.le_trans (List.length_filter_le _ _) (by rw [List.length_take]; omega)

set_option maxRecDepth 100000 in
set_option maxHeartbeats 8000000 in
theorem qgopen_any (gb N c d : Nat) (A : Option Addr) (dead : Bool) (L : List Fr) (f : Fr) (w : World) (hg : w.heap[gb]? = some (.cells #[.slice A N c, .bool dead] 27 (0, 0))) (h : ShowsG frC w d (.slice A N c) L) (hl : L.length ≤ 1099511627776) :
    Calls Try.prog 17 #[.pointer (some ⟨gb, 0, none⟩), .agg f.vs.toArray] w fun e w' => ∃ v, e = .returned v ∧ OwnG frC 30 w' (w.heap.size + 1) v (atQ L f.plc) ∧ Below w.heap.size w w' := by
  obtain ⟨hN, _, _⟩ := h.lens
  obtain ⟨fa, fb, fc, fd, ft, fk, fch, fp⟩ := f
  simp only [Fr.vs, Fr.plc]
  have hX := BoxF.new w ⟨fa, fb, fc, fd, ft, fk, fch, fp⟩
  have hb0 := f_below_box w (Obj.cells #[.bool fa, .bool fb, .bool fc, .bool fd, .int .u8 ft, .int .u8 fk, .int .u16 fch, .string fp] 30)
  have hws : (w.alloc (Obj.cells #[.bool fa, .bool fb, .bool fc, .bool fd, .int .u8 ft, .int .u8 fk, .int .u16 fch, .string fp] 30)).heap.size = w.heap.size + 1 := by simp
  dsimp only at hX
  have hgl : gb < w.heap.size := (Array.getElem?_eq_some_iff.1 hg).1
  have HG := Lib.hid (fun w' (hb : Below w.heap.size w w') => show w'.cell? ⟨gb, 0, none⟩ = some (.slice A N c) from
    (hb.cell (p := ⟨gb, 0, none⟩) hgl).trans (by rw [cell_of_row w gb _ _ 27 (0, 0) hg]; rfl))
  have HS := Lib.hid (fun w' (hb : Below w.heap.size w w') => h.below' hb (Nat.le_refl _))
  generalize hW : w.alloc (Obj.cells #[.bool fa, .bool fb, .bool fc, .bool fd, .int .u8 ft, .int .u8 fk, .int .u16 fch, .string fp] 30) = W at *
  have HW := Lib.hid hW
  have HWS := Lib.hid hws
  have HX := Lib.hid hX
  have HB0 := Lib.hid hb0
  have g0 := HG.out W hb0
  clear hX hb0 hws hg h hgl hW
  go_enter Try.func17, Try.ntmps17
  go_upto_region 1 with fail
  rw [HW.out]
  go_wp2_with fail
  clear g0
  go_loopw [5, 6] (fun v i wr => ∃ j : Nat, j ≤ N ∧ i = .int .i64 j ∧ OwnG frC 30 wr (w.heap.size + 1) v (atQ (L.take j) (fch, fk)) ∧ Hid (Below (w.heap.size + 1) W wr)) (fun _ i _ => N - (intOf i).toNat)
  case atStart => exact ⟨0, Nat.zero_le _, rfl, OwnG.nil_ _ _ _ _, Lib.hid (Below.refl _ _)⟩
  case round =>
    obtain ⟨j, hj, rfl, ho, HB⟩ := hrel
    rename World => wj
    have hbw := HB0.out.trans (HB.out.mono (Nat.le_succ _))
    have g0 := HG.out wj hbw
    obtain ⟨A5, c5, hv5, _, _⟩ := ho.form
    subst hv5
    by_cases hlt : j < L.length
    · have hjl : (j : Int) < (N : Int) := by omega
      obtain ⟨o, rfl, hd, hcl⟩ := (HS.out wj hbw).at_ (by omega)
      obtain ⟨x0, x1, x2, x3, x4, x5, x6, x7⟩ := fr_cell hcl hlt
      have hXj : BoxF wj w.heap.size ⟨fa, fb, fc, fd, ft, fk, fch, fp⟩ := (HB.out.block _ (Nat.lt_succ_self _)).trans HX.out
      have y5 := hXj.c5
      have y6 := hXj.c6
      dsimp only at y5 y6
      have hsn := atQ_snoc L (fch, fk) j hlt
      have hle := atQ_le L (fch, fk) j
      have hszw := HB.out.size
      have HB' := HB
      have hML : j ≤ 1099511627776 := by omega
      clear hcl hXj hbw hd
      generalize hM : atQ (L.take j) (fch, fk) = M at *
      generalize hx : L[j] = x at *
      obtain ⟨xa, xb, xc, xd, xt, xk, xch, xp⟩ := x
      simp only [Fr.plc, Prod.mk.injEq] at hsn
      dsimp only at x0 x1 x2 x3 x4 x5 x6 x7
      have HMX := Lib.hid (And.intro hM hx)
      clear hM hx
      by_cases h1 : xch = fch
      · have e1 : ((xch : Int) == (fch : Int)) = true := by rw [beq_iff_eq]; omega
        by_cases h2 : xk = fk
        · have e2 : ((xk : Int) == (fk : Int)) = true := by rw [beq_iff_eq]; omega
          rw [if_pos ⟨h1, h2⟩] at hsn
          have HSN := Lib.hid hsn
          clear hsn h1 h2 HMX
          go_wp2_with fail
          go_quiet (fail)
          go_upto_region 6 with fail
          have hbv := below_drewN HB'.out nq
          have hov : OwnG frC 30 (wj.drewN nq) (w.heap.size + 1) (.slice A5 M.length c5) M := ho
          have v0 : (wj.drewN nq).cell? ⟨d, o + j * 8, none⟩ = some (.bool xa) := x0
          have v1 : (wj.drewN nq).cell? ⟨d, o + j * 8 + 1, none⟩ = some (.bool xb) := x1
          have v2 : (wj.drewN nq).cell? ⟨d, o + j * 8 + 2, none⟩ = some (.bool xc) := x2
          have v3 : (wj.drewN nq).cell? ⟨d, o + j * 8 + 3, none⟩ = some (.bool xd) := x3
          have v4 : (wj.drewN nq).cell? ⟨d, o + j * 8 + 4, none⟩ = some (.int .u8 xt) := x4
          have v5 : (wj.drewN nq).cell? ⟨d, o + j * 8 + 5, none⟩ = some (.int .u8 xk) := x5
          have v6 : (wj.drewN nq).cell? ⟨d, o + j * 8 + 6, none⟩ = some (.int .u16 xch) := x6
          have v7 : (wj.drewN nq).cell? ⟨d, o + j * 8 + 7, none⟩ = some (.string xp) := x7
          have vg : (wj.drewN nq).cell? ⟨gb, 0, none⟩ = some (.slice (some ⟨d, o, none⟩) N c) := g0
          clear x0 x1 x2 x3 x4 x5 x6 x7 g0 y5 y6 ho HB HB' hszw
          generalize wj.drewN nq = V at *
          have hsv := hbv.size
          have hws := HWS.out
          go_upto_region 4 with (at_builtin; refine wpList_appendG frC _ rfl (.tmp 40) (.tmp 48) 22 rfl (w.heap.size + 1) 30 (.agg #[.bool false, .bool false, .bool false, .bool false, .int .u8 0, .int .u8 0, .int .u16 0, .string ⟨#[]⟩]) 24 Try.underlying22 infoFr rfl _ M rfl (hov.alloc_ _) V.heap.size (.slice (some ⟨V.heap.size, 0, none⟩) 1 1) [⟨xa, xb, xc, xd, xt, xk, xch, xp⟩] rfl (ShowsG.lit (C := frC) [⟨xa, xb, xc, xd, xt, xk, xch, xp⟩] (by simp [Code.all, frC, Fr.vs]) (by simp [maxLen])) (by simp; omega) (by simp; omega) (by simp; omega) ?_; intro v8 w4 ho4 hg4)
          have hbA : Below V.heap.size V (V.alloc (Obj.cells #[.bool xa, .bool xb, .bool xc, .bool xd, .int .u8 xt, .int .u8 xk, .int .u16 xch, .string xp] 30)) := f_below_box _ _
          have HB4 := Lib.hid ((hbv.trans (hbA.mono (by omega))).grown hg4 (by have := hbA.size; omega) (fun q hq => (hov.block q hq).1))
          clear hg4 hbA hov hbv v0 v1 v2 v3 v4 v5 v6 v7 vg
          go_wp2_with fail
          go_roundw
          case rel => exact ⟨j + 1, by omega, by go_num, by rw [HSN.out]; exact ho4, HB4⟩
          case measure => simp [intOf]; omega
        · have e2 : ((xk : Int) == (fk : Int)) = false := by rw [beq_eq_false_iff_ne]; omega
          rw [if_neg (fun e => h2 e.2), List.append_nil] at hsn
          have HSN := Lib.hid hsn
          clear hsn h1 h2 HMX
          go_wp2_with fail
          go_quiet (fail)
          go_wp2_with fail
          go_roundw
          case rel => exact ⟨j + 1, by omega, by go_num, by rw [HSN.out]; exact ho, Lib.hid (below_drewN HB'.out _)⟩
          case measure => simp [intOf]; omega
      · have e1 : ((xch : Int) == (fch : Int)) = false := by rw [beq_eq_false_iff_ne]; omega
        rw [if_neg (fun e => h1 e.1), List.append_nil] at hsn
        have HSN := Lib.hid hsn
        clear hsn h1 HMX
        go_wp2_with fail
        go_quiet (fail)
        go_wp2_with fail
        go_roundw
        case rel => exact ⟨j + 1, by omega, by go_num, by rw [HSN.out]; exact ho, Lib.hid (below_drewN HB'.out _)⟩
        case measure => simp [intOf]; omega
    · have hjn : ¬ (j : Int) < (N : Int) := by omega
      have e : L.take j = L := List.take_of_length_le (by omega)
      rw [e] at ho
      have HO := Lib.hid ho
      clear ho
      go_wp2_with fail
      go_ret
      exact ⟨_, rfl, HO.out, hbw⟩

end Go.Proofs.Ytocankfabgjjmaa
namespace Go.Proofs.Ytocankfabgjjmaa
open Go.RowKit
set_option linter.unusedVariables false
set_option linter.unusedSimpArgs false

def anyQ (L : List Fr) (q : Plc) (m : Nat) : Bool := (L.take m).any fun x => decide (x.plc = q)
theorem anyQ_snoc (L : List Fr) (q : Plc) (m : Nat) (h : m < L.length) : anyQ L q (m + 1) = (anyQ L q m || decide (L[m].plc = q)) := by
  unfold anyQ
  rw [List.take_succ_eq_append_getElem h]
  simp only [List.any_append, List.any_cons, List.any_nil, Bool.or_false]
def cntQ (L : List Fr) (j : Nat) : Nat := (distQ [] ((L.take j).map Fr.plc)).length
theorem cntQ_snoc (L : List Fr) (j : Nat) (h : j < L.length) : cntQ L (j + 1) = cntQ L j + (if anyQ L L[j].plc j = true then 0 else 1) := by
  unfold cntQ
  rw [List.take_succ_eq_append_getElem h, List.map_append, List.map_singleton, distQ_snoc]
  have hm : L[j].plc ∈ distQ [] ((L.take j).map Fr.plc) ↔ anyQ L L[j].plc j = true := by
    rw [distQ_mem]
    unfold anyQ
    simp only [List.not_mem_nil, false_or, List.mem_map, List.any_eq_true, decide_eq_true_eq]
  by_cases hq : anyQ L L[j].plc j = true
  · rw [if_pos (hm.2 hq), if_pos hq]; rfl
  · rw [if_neg (fun e => hq (hm.1 e)), if_neg hq]; simp
theorem cntQ_le (L : List Fr) (j : Nat) (h : j ≤ L.length) : cntQ L j ≤ j := by
  induction j with
  | zero => simp [cntQ, distQ]
  | succ j ih =>
    rw [cntQ_snoc L j (by omega)]
    have := ih (by omega)
    split <;> omega

set_option maxRecDepth 100000 in
set_option maxHeartbeats 8000000 in
theorem qgOpen_any (gb N c d : Nat) (A : Option Addr) (dead : Bool) (L : List Fr) (w : World) (hg : w.heap[gb]? = some (.cells #[.slice A N c, .bool dead] 27 (0, 0))) (h : ShowsG frC w d (.slice A N c) L) (hl : L.length ≤ 1099511627776) :
    Calls Try.prog 11 #[.pointer (some ⟨gb, 0, none⟩)] w fun e w' => e = .returned (.int .i64 ((distQ [] (L.map Fr.plc)).length : Nat)) ∧ ∃ q, w' = w.drewN q := by
  obtain ⟨hN, _, _⟩ := h.lens
  have g0 : w.cell? ⟨gb, 0, none⟩ = some (.slice A N c) := by rw [cell_of_row w gb _ _ 27 (0, 0) hg]; rfl
  obtain ⟨R, hR⟩ : ∃ R, R = (distQ [] (L.map Fr.plc)).length := ⟨_, rfl⟩
  rw [← hR]
  have HS := Lib.hid h
  have HR := Lib.hid hR
  clear hg h hR
  go_enter Try.func11, Try.ntmps11
  go_wp2_with fail
  go_loopw [3, 4] (fun n i wr => ∃ j q : Nat, j ≤ N ∧ i = .int .i64 j ∧ n = .int .i64 (cntQ L j : Nat) ∧ wr = w.drewN q) (fun _ i _ => N - (intOf i).toNat)
  case atStart => exact ⟨0, 0, Nat.zero_le _, rfl, by simp [cntQ, distQ], rfl⟩
  case round =>
    obtain ⟨j, q, hj, rfl, rfl, rfl⟩ := hrel
    by_cases hlt : j < L.length
    · have hjl : (j : Int) < (N : Int) := by omega
      obtain ⟨o, rfl, hd, hcl⟩ := HS.out.at_ (by omega)
      obtain ⟨y0, y1, y2, y3, y4, y5, y6, y7⟩ := fr_cell hcl hlt
      have HCL := Lib.hid hcl
      have hsn := cntQ_snoc L j hlt
      have hcl' := cntQ_le L j (Nat.le_of_lt hlt)
      have hjb : j ≤ 1099511627776 := by omega
      have HHL := Lib.hid hlt
      clear hcl hd y0 y1 y2 y3 y4 y7
      have hpp : (L[j].ch, L[j].k) = L[j].plc := rfl
      generalize L[j].plc = p at *
      generalize L[j].ch = pc at *
      generalize L[j].k = pk at *
      have HPP := Lib.hid hpp
      clear hpp
      generalize hn : cntQ L j = n at *
      have HSN := Lib.hid hsn
      clear hsn
      go_wp2_with fail
      go_loopw [5, 6] (fun fst k wr => ∃ m q : Nat, m ≤ j ∧ k = .int .i64 m ∧ fst = .bool (!anyQ L p m) ∧ wr = w.drewN q) (fun _ k _ => j - (intOf k).toNat)
      case atStart => exact ⟨0, _, Nat.zero_le _, rfl, by simp [anyQ], rfl⟩
      case round =>
        obtain ⟨m, q', hm, rfl, rfl, rfl⟩ := hrel
        by_cases hmj : m < j
        · have hmji : (m : Int) < (j : Int) := by omega
          have hmn : (m : Int) < (N : Int) := by omega
          have hml : m < L.length := by omega
          obtain ⟨x0, x1, x2, x3, x4, x5, x6, x7⟩ := fr_cell HCL.out hml
          have han := anyQ_snoc L p m hml
          generalize hx : L[m] = x at *
          obtain ⟨xa, xb, xc, xd, xt, xk, xch, xp⟩ := x
          rw [← HPP.out] at han
          simp only [Fr.plc, Prod.mk.injEq] at han
          dsimp only at x5 x6
          have hmb : m ≤ 1099511627776 := by omega
          clear x0 x1 x2 x3 x4 x7 hx
          by_cases h1 : xch = pc
          · have e1 : ((xch : Int) == (pc : Int)) = true := by rw [beq_iff_eq]; omega
            by_cases h2 : xk = pk
            · have e2 : ((xk : Int) == (pk : Int)) = true := by rw [beq_iff_eq]; omega
              rw [decide_eq_true (⟨h1, h2⟩ : xch = pc ∧ xk = pk), Bool.or_true, HPP.out] at han
              have HAN := Lib.hid han
              clear han h1 h2
              go_wp2_with fail
              go_quiet (fail)
              go_wp2_with fail
              go_roundw
              case rel => exact ⟨m + 1, _, by omega, by go_num, by rw [HAN.out]; rfl, rfl⟩
              case measure => simp [intOf]; omega
            · have e2 : ((xk : Int) == (pk : Int)) = false := by rw [beq_eq_false_iff_ne]; omega
              rw [decide_eq_false (fun e => h2 e.2), Bool.or_false, HPP.out] at han
              have HAN := Lib.hid han
              clear han h1 h2
              go_wp2_with fail
              go_quiet (fail)
              go_wp2_with fail
              go_roundw
              case rel => exact ⟨m + 1, _, by omega, by go_num, by rw [HAN.out], rfl⟩
              case measure => simp [intOf]; omega
          · have e1 : ((xch : Int) == (pc : Int)) = false := by rw [beq_eq_false_iff_ne]; omega
            rw [decide_eq_false (fun e => h1 e.1), Bool.or_false, HPP.out] at han
            have HAN := Lib.hid han
            clear han h1
            go_wp2_with fail
            go_quiet (fail)
            go_wp2_with fail
            go_roundw
            case rel => exact ⟨m + 1, _, by omega, by go_num, by rw [HAN.out], rfl⟩
            case measure => simp [intOf]; omega
        · have hmj2 : ¬ (m : Int) < (j : Int) := by omega
          obtain rfl : m = j := by omega
          generalize anyQ L p m = b at *
          have hsn := HSN.out
          cases b with
          | true =>
            rw [if_pos rfl] at hsn
            have HSN2 := Lib.hid hsn
            clear hsn hmj
            go_wp2_with fail
            go_roundw
            case rel => exact ⟨m + 1, _, by omega, by go_num, by rw [HSN2.out]; rfl, rfl⟩
            case measure => simp [intOf]; omega
          | false =>
            rw [if_neg (by decide)] at hsn
            have HSN2 := Lib.hid hsn
            clear hsn hmj
            go_wp2_with fail
            go_roundw
            case rel => exact ⟨m + 1, _, by omega, by go_num, by rw [HSN2.out]; go_num, rfl⟩
            case measure => simp [intOf]; omega
    · have hjn : ¬ (j : Int) < (N : Int) := by omega
      have e : L.take j = L := List.take_of_length_le (by omega)
      have hfin : cntQ L j = R := by unfold cntQ; rw [e]; exact HR.out.symm
      rw [hfin] at *
      clear hfin e
      go_wp2_with fail
      go_ret
      exact ⟨rfl, _, rfl⟩

end Go.Proofs.Ytocankfabgjjmaa
