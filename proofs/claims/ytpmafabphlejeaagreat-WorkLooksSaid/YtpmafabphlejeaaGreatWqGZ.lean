/-
  Texts, together: WqG, WqH, WqI.
  Conditions: none but sizes.
-/
import Derived.Test.YtpmafabphlejeaaGreatWqCZ
import Derived.Test.YtpmafabphlejeaaGreatWkEZ
import Derived.Test.YtpmafabphlejeaaGreatWkLZ
/-
  The contracts of the document's Into and From.
  Conditions: none but sizes.
-/
namespace Go.Proofs.YtpmafabphlejeaaGreat
open Go.RowKit
set_option linter.unusedVariables false
set_option linter.unusedSimpArgs false
set_option maxRecDepth 100000

set_option maxHeartbeats 2000000 in
theorem qinto_any (x : WorkC) (q : ByteArray) (w : World) (h : ShowsW w x) (hn : x.cs.length ≤ 1000000) : Calls Tryz.prog 27 #[workVal x, .string q] w fun e w' => e = .returned (.int .i64 (intoD (ifW x).ps q)) ∧ Below w.heap.size w w' := by
  have HC := Lib.hid (fun w' (hb : Below w.heap.size w w') => qcheckw_any x w' (h.kept hb (Nat.le_refl _)))
  have HS := Lib.hid h.puts
  have hB0 := below_boxV w (Obj.cells #[.slice x.A1 x.cs.length x.c1, .slice x.A2 x.rs.length x.c2] 25)
  have hX0 := BoxK.new w (.slice x.A1 x.cs.length x.c1) (.slice x.A2 x.rs.length x.c2)
  have HX := Lib.hid (fun w' (hb : Below (w.heap.size + 1) (w.alloc (Obj.cells #[.slice x.A1 x.cs.length x.c1, .slice x.A2 x.rs.length x.c2] 25)) w') => (hX0.kept hb (by simp)))
  have HB0 := Lib.hid hB0
  have HBx := Lib.hid (Below.refl (w.heap.size + 1) (w.alloc (Obj.cells #[.slice x.A1 x.cs.length x.c1, .slice x.A2 x.rs.length x.c2] 25)))
  cases hv : wB x.ps x.rs
  case false =>
    rw [errW_no hv] at HC
    have HR := Lib.hid (show intoD (ifW x).ps q = 0 by rw [ifW_no hv]; rfl)
    clear h hX0 hB0 hv
    unfold workVal at *
    go_enter Tryz.func27, Tryz.ntmps27
    go_wp2_with fail
    go_loopw [5, 6] (fun nv iv wr => nv = .int .i64 0 ∧ iv = .int .i64 0 ∧ Hid (Below w.heap.size w wr) ∧ Hid (Below (w.heap.size + 1) (w.alloc (Obj.cells #[.slice x.A1 x.cs.length x.c1, .slice x.A2 x.rs.length x.c2] 25)) wr)) (fun _ i _ => 0)
    case atStart => exact ⟨rfl, rfl, HB0, HBx⟩
    case round =>
      rename World => wr
      obtain ⟨rfl, rfl, hb, hbx⟩ := hrel
      have k0 := (HX.out wr hbx.out).c0
      have k1 := (HX.out wr hbx.out).c1
      by_cases hlt : 0 < x.cs.length
      · have hj1 : (0 : Int) < (x.cs.length : Int) := by omega
        clear hn
        go_wp2_with fail
        refine (HC.out wr hb.out).mono ?_
        rintro e w1 ⟨rfl, hb1⟩
        have HB1 := Lib.hid (hb.out.trans (hb1.mono hb.out.size))
        clear k0 k1 hb1
        go_wp2_with fail
        go_ret
        exact ⟨by rw [HR.out]; rfl, HB1.out⟩
      · have hj1 : ¬ (0 : Int) < (x.cs.length : Int) := by omega
        clear hn
        go_wp2_with fail
        go_ret
        exact ⟨by rw [HR.out]; rfl, hb.out⟩
  case true =>
    rw [errW_ok hv] at HC
    rw [ifW_ok hv]
    have hps : x.ps = esOf x.cs := rfl
    rw [hps]
    clear h hX0 hB0 hv hps
    unfold workVal at *
    go_enter Tryz.func27, Tryz.ntmps27
    go_wp2_with fail
    go_loopw [5, 6] (fun nv iv wr => ∃ (j m : Nat), j ≤ x.cs.length ∧ m ≤ 1000000 ∧ nv = .int .i64 m ∧ iv = .int .i64 j ∧ Hid (m = intoD ((esOf x.cs).take j) q) ∧ Hid (Below w.heap.size w wr) ∧ Hid (Below (w.heap.size + 1) (w.alloc (Obj.cells #[.slice x.A1 x.cs.length x.c1, .slice x.A2 x.rs.length x.c2] 25)) wr)) (fun _ i _ => x.cs.length - (intOf i).toNat)
    case atStart => exact ⟨0, 0, by omega, by omega, rfl, rfl, Lib.hid (by simp [intoD]), HB0, HBx⟩
    case round =>
      rename World => wr
      obtain ⟨j, m, hj, hm, rfl, rfl, hes, hb, hbx⟩ := hrel
      have k0 := (HX.out wr hbx.out).c0
      have k1 := (HX.out wr hbx.out).c1
      by_cases hlt : j < x.cs.length
      · have hj1 : (j : Int) < (x.cs.length : Int) := by omega
        have hj0 : (0 : Int) ≤ (j : Int) := by omega
        have b3 : IntKind.i64.wrap ((j : Int) + 1) = (j : Int) + 1 := i64_id _ (by omega) (by omega)
        have b4 : IntKind.i64.wrap ((m : Int) + 1) = (m : Int) + 1 := i64_id _ (by omega) (by omega)
        have hst := intoD_step (esOf x.cs) q j (by rw [esOf_len]; exact hlt)
        rw [esOf_get x.cs j hlt, ← hes.out] at hst
        have hle := intoD_le ((esOf x.cs).take (j + 1)) q
        have hbe := bytes_beq x.cs[j].e.q q
        rw [List.length_take, esOf_len] at hle
        go_wp2_with fail
        refine (HC.out wr hb.out).mono ?_
        rintro e w1 ⟨rfl, hb1⟩
        have HB1 := Lib.hid (hb.out.trans (hb1.mono hb.out.size))
        have HBx1 := Lib.hid (hbx.out.trans (hb1.mono (by have := hbx.out.size; simp at this; exact this)))
        obtain ⟨d, o, hXA, hd, ⟨e0, e1, e2, e3, e4, e5⟩, e6, e7, e8, e9, e10, e11⟩ := (HS.out.kept HB1.out (Nat.le_refl _)).at_ j hlt
        clear k0 k1 hb1 e1 e2 e3 e4 e5 e6 e7 e8 e9 e10 e11 hd
        have k0 := (HX.out w1 HBx1.out).c0
        rw [hXA] at k0
        clear hXA
        by_cases e : x.cs[j].e.q = q
        · have HT := Lib.hid (show m + 1 = intoD ((esOf x.cs).take (j + 1)) q by rw [hst, if_pos e])
          have HM := Lib.hid (show m + 1 ≤ 1000000 by rw [HT.out]; omega)
          rw [decide_eq_true e] at hbe
          clear hst e hle
          go_wp2_with fail
          go_roundw
          case rel => exact ⟨j + 1, m + 1, by omega, HM.out, by go_num, by go_num, HT, HB1, HBx1⟩
          case measure => simp [intOf]; omega
        · have HT := Lib.hid (show m = intoD ((esOf x.cs).take (j + 1)) q by rw [hst, if_neg e]; omega)
          rw [decide_eq_false e] at hbe
          clear hst e hle
          go_wp2_with fail
          go_roundw
          case rel => exact ⟨j + 1, m, by omega, hm, by go_num, by go_num, HT, HB1, HBx1⟩
          case measure => simp [intOf]; omega
      · have hj1 : ¬ (j : Int) < (x.cs.length : Int) := by omega
        have HT := Lib.hid (show m = intoD (esOf x.cs) q by rw [hes.out, List.take_of_length_le (by rw [esOf_len]; omega)])
        go_wp2_with fail
        go_ret
        exact ⟨by rw [← HT.out]; rfl, hb.out⟩

set_option maxHeartbeats 2000000 in
theorem qfrom_any (x : WorkC) (q : ByteArray) (w : World) (h : ShowsW w x) (hn : x.rs.length ≤ 1000000) : Calls Tryz.prog 30 #[workVal x, .string q] w fun e w' => ∃ v, e = .returned v ∧ OwnG (natC .u64) 26 w' w.heap.size v (fromD (ifW x).rs q) ∧ Below w.heap.size w w' := by
  have HC := Lib.hid (fun w' (hb : Below w.heap.size w w') => qcheckw_any x w' (h.kept hb (Nat.le_refl _)))
  have HS := Lib.hid h.takes
  have hB0 := below_boxV w (Obj.cells #[.slice x.A1 x.cs.length x.c1, .slice x.A2 x.rs.length x.c2] 25)
  have hX0 := BoxK.new w (.slice x.A1 x.cs.length x.c1) (.slice x.A2 x.rs.length x.c2)
  have HX := Lib.hid (fun w' (hb : Below (w.heap.size + 1) (w.alloc (Obj.cells #[.slice x.A1 x.cs.length x.c1, .slice x.A2 x.rs.length x.c2] 25)) w') => (hX0.kept hb (by simp)))
  have HB0 := Lib.hid hB0
  have HBx := Lib.hid (Below.refl (w.heap.size + 1) (w.alloc (Obj.cells #[.slice x.A1 x.cs.length x.c1, .slice x.A2 x.rs.length x.c2] 25)))
  cases hv : wB x.ps x.rs
  case false =>
    rw [errW_no hv] at HC
    have HR := Lib.hid (show fromD (ifW x).rs q = [] by rw [ifW_no hv]; rfl)
    clear h hX0 hB0 hv
    unfold workVal at *
    go_enter Tryz.func30, Tryz.ntmps30
    go_wp2_with fail
    go_loopw [5, 6] (fun nv iv wr => nv = .slice none 0 0 ∧ iv = .int .i64 0 ∧ Hid (Below w.heap.size w wr) ∧ Hid (Below (w.heap.size + 1) (w.alloc (Obj.cells #[.slice x.A1 x.cs.length x.c1, .slice x.A2 x.rs.length x.c2] 25)) wr)) (fun _ i _ => 0)
    case atStart => exact ⟨rfl, rfl, HB0, HBx⟩
    case round =>
      rename World => wr
      obtain ⟨rfl, rfl, hb, hbx⟩ := hrel
      have k0 := (HX.out wr hbx.out).c0
      have k1 := (HX.out wr hbx.out).c1
      by_cases hlt : 0 < x.rs.length
      · have hj1 : (0 : Int) < (x.rs.length : Int) := by omega
        clear hn
        go_wp2_with fail
        refine (HC.out wr hb.out).mono ?_
        rintro e w1 ⟨rfl, hb1⟩
        have HB1 := Lib.hid (hb.out.trans (hb1.mono hb.out.size))
        clear k0 k1 hb1
        go_wp2_with fail
        go_ret
        exact ⟨_, rfl, by rw [HR.out]; exact OwnG.nil_ _ _ _ _, HB1.out⟩
      · have hj1 : ¬ (0 : Int) < (x.rs.length : Int) := by omega
        clear hn
        go_wp2_with fail
        go_ret
        exact ⟨_, rfl, by rw [HR.out]; exact OwnG.nil_ _ _ _ _, hb.out⟩
  case true =>
    rw [errW_ok hv] at HC
    rw [ifW_ok hv]
    have hn2 : x.rs.length ≤ 100 := (wB_iff.1 hv).2.1
    clear h hX0 hB0 hv hn
    unfold workVal at *
    go_enter Tryz.func30, Tryz.ntmps30
    go_wp2_with fail
    go_loopw [5, 6] (fun lv iv wr => ∃ (j : Nat) (l : List Nat), j ≤ x.rs.length ∧ iv = .int .i64 j ∧ Hid (OwnG (natC .u64) 26 wr (w.heap.size + 1) lv l) ∧ Hid (l = fromD (x.rs.take j) q) ∧ Hid (Below w.heap.size w wr) ∧ Hid (Below (w.heap.size + 1) (w.alloc (Obj.cells #[.slice x.A1 x.cs.length x.c1, .slice x.A2 x.rs.length x.c2] 25)) wr)) (fun _ i _ => x.rs.length - (intOf i).toNat)
    case atStart => exact ⟨0, [], by omega, rfl, Lib.hid (OwnG.nil_ _ _ _ _), Lib.hid (by simp [fromD]), HB0, HBx⟩
    case round =>
      rename World => wr
      obtain ⟨j, l, hj, rfl, ho, hes, hb, hbx⟩ := hrel
      obtain ⟨Al, cl, hlv, hlc, _⟩ := ho.out.form
      subst hlv
      have k0 := (HX.out wr hbx.out).c0
      have k1 := (HX.out wr hbx.out).c1
      by_cases hlt : j < x.rs.length
      · have hj1 : (j : Int) < (x.rs.length : Int) := by omega
        have hj0 : (0 : Int) ≤ (j : Int) := by omega
        have b3 : IntKind.i64.wrap ((j : Int) + 1) = (j : Int) + 1 := i64_id _ (by omega) (by omega)
        have hst := fromD_step x.rs q j hlt
        rw [← hes.out] at hst
        have hle := fromD_le (x.rs.take j) q
        rw [← hes.out, List.length_take] at hle
        have HLE := Lib.hid (show l.length ≤ 100 by omega)
        have hbe := bytes_beq x.rs[j].q q
        clear hlc
        go_wp2_with fail
        refine (HC.out wr hb.out).mono ?_
        rintro e w1 ⟨rfl, hb1⟩
        have HB1 := Lib.hid (hb.out.trans (hb1.mono hb.out.size))
        have hszx := hbx.out.size
        rw [World.size_alloc] at hszx
        have HBx1 := Lib.hid (hbx.out.trans (hb1.mono hszx))
        have HO1 := Lib.hid (ho.out.below hb1 (Nat.le_refl _))
        obtain ⟨d, o, hXA, hd, c0, c1⟩ := (HS.out.kept HB1.out (Nat.le_refl _)).at_ j hlt
        clear k0 k1 hb1 hd ho
        have k1 := (HX.out w1 HBx1.out).c1
        rw [hXA] at k1
        clear hXA
        by_cases e : x.rs[j].q = q
        · have HT := Lib.hid (show l ++ [x.rs[j].id] = fromD (x.rs.take (j + 1)) q by rw [hst, if_pos e])
          rw [decide_eq_true e] at hbe
          have hB5 := below_boxV w1 (Obj.cells #[.int .u64 x.rs[j].id] 26)
          have hm : ShowsG (natC .u64) (w1.alloc (Obj.cells #[.int .u64 x.rs[j].id] 26)) w1.heap.size (.slice (some ⟨w1.heap.size, 0, none⟩) 1 1) [x.rs[j].id] := ShowsG.lit (C := natC .u64) [x.rs[j].id] (by simp [Code.all, natC]) (by simp [maxLen])
          have ho5 := HO1.out.below hB5 (Nat.le_refl _)
          have HB5 := Lib.hid hB5
          have hz5 := hB5.size
          have hz1 := HBx1.out.size
          rw [World.size_alloc] at hz1
          clear hst e hle hB5
          go_wp2_with (at_builtin
                       refine wpList_appendG (natC .u64) _ rfl (.tmp 27) (.tmp 34) 69 rfl (w.heap.size + 1) 26 _ 8 Tryz.underlying69 infoN64 rfl _ _ rfl ho5 _ _ _ rfl hm (by have := HLE.out; simp only [List.length_singleton]; omega) (by have := HLE.out; simp only [List.length_singleton]; omega) (by omega) ?_
                       intro v6 w6 ho6 hg6)
          have HO6 := Lib.hid ho6
          have HB6 := Lib.hid ((HB1.out.trans (HB5.out.mono HB1.out.size)).grown hg6 (by have := HB1.out.size; omega) (fun i hi => by have := (ho5.block i hi).1; omega))
          have HB7 := Lib.hid ((HBx1.out.trans (HB5.out.mono hz1)).grown hg6 (by omega) (fun i hi => (ho5.block i hi).1))
          go_roundw
          case rel => exact ⟨j + 1, _, by omega, by go_num, HO6, HT, HB6, HB7⟩
          case measure => simp [intOf]; omega
        · have HT := Lib.hid (show l = fromD (x.rs.take (j + 1)) q by rw [hst, if_neg e, List.append_nil])
          rw [decide_eq_false e] at hbe
          clear hst e hle
          go_wp2_with fail
          go_roundw
          case rel => exact ⟨j + 1, l, by omega, by go_num, HO1, HT, HB1, HBx1⟩
          case measure => simp [intOf]; omega
      · have hj1 : ¬ (j : Int) < (x.rs.length : Int) := by omega
        have HT := Lib.hid (show l = fromD x.rs q by rw [hes.out, List.take_of_length_le (by omega)])
        clear hlc
        go_wp2_with fail
        go_ret
        exact ⟨_, rfl, by rw [← HT.out]; exact ho.out.mono (Nat.le_succ _), hb.out⟩

end Go.Proofs.YtpmafabphlejeaaGreat
/-
  The contract of the document's Same of numbers, beside a work's.
  Conditions: none but sizes.
-/
namespace Go.Proofs.YtpmafabphlejeaaGreat
open Go.RowKit
set_option linter.unusedVariables false
set_option linter.unusedSimpArgs false
set_option maxRecDepth 100000

set_option maxHeartbeats 1000000 in
theorem qsameN_any (A1 A2 : Option Addr) (c1 c2 d1 d2 : Nat) (l m : List Nat) (w : World) (h1 : ShowsG (natC .u64) w d1 (.slice A1 l.length c1) l) (h2 : ShowsG (natC .u64) w d2 (.slice A2 m.length c2) m) (hl : l.length ≤ 1000000) (hm : m.length ≤ 1000000) :
    Calls Tryz.prog 28 #[.slice A1 l.length c1, .slice A2 m.length c2] w fun e w' => e = .returned (.bool (decide (l = m))) ∧ Below w.heap.size w w' := by
  by_cases hlen : l.length = m.length
  case neg =>
    have t : ((l.length : Int) != (m.length : Int)) = true := by rw [bne_iff_ne]; omega
    have e : decide (l = m) = false := by simp; rintro rfl; exact hlen rfl
    rw [e]
    clear e
    go_enter Tryz.func28, Tryz.ntmps28
    go_wp2_with fail
    go_ret
    exact ⟨rfl, Below.refl _ _⟩
  have t : ((l.length : Int) != (m.length : Int)) = false := by simp; omega
  have HD := Lib.hid (fun (hall : ∀ j (h : j < l.length), l[j] = m[j]'(by omega)) => (show decide (l = m) = true from by simp; exact List.ext_getElem hlen (fun j a b => hall j a)))
  have HE := Lib.hid (fun j (h : j < l.length) (hne : l[j] ≠ m[j]'(by omega)) => (show decide (l = m) = false from by simp; rintro rfl; exact hne rfl))
  generalize decide (l = m) = R at *
  have HS1 := Lib.hid (fun w' (hb : Below w.heap.size w w') => h1.below' hb (Nat.le_refl _))
  have HS2 := Lib.hid (fun w' (hb : Below w.heap.size w w') => h2.below' hb (Nat.le_refl _))
  clear h1 h2
  go_enter Tryz.func28, Tryz.ntmps28
  go_wp2_with fail
  go_loopw [5] (fun iv wr => ∃ j : Nat, j ≤ l.length ∧ iv = .int .i64 j ∧ Hid (∀ k (h : k < l.length), k < j → l[k] = m[k]'(by omega)) ∧ Below w.heap.size w wr) (fun iv _ => l.length - (intOf iv).toNat)
  case atStart => exact ⟨0, by omega, rfl, Lib.hid fun k _ h => absurd h (by omega), Below.refl _ _⟩
  case round =>
    obtain ⟨j, hj, rfl, hall, hb⟩ := hrel
    rename World => wr
    have hsz := hb.size
    by_cases hlt : j < l.length
    · have hlt2 : j < m.length := by omega
      obtain ⟨o1, rfl, _, hc1⟩ := (HS1.out wr hb).at_ (by omega)
      obtain ⟨o2, rfl, _, hc2⟩ := (HS2.out wr hb).at_ (by omega)
      have x1 : wr.cell? ⟨d1, o1 + j, none⟩ = some (.int .u64 (l[j] : Nat)) := by have := hc1 j hlt 0 (by decide); simpa [natC] using this
      have x2 : wr.cell? ⟨d2, o2 + j, none⟩ = some (.int .u64 (m[j] : Nat)) := by have := hc2 j hlt2 0 (by decide); simpa [natC] using this
      have b1 : (j : Int) < (l.length : Int) := by omega
      have b2 : (j : Int) < (m.length : Int) := by omega
      have b3 : IntKind.i64.wrap ((j : Int) + 1) = (j : Int) + 1 := i64_id _ (by omega) (by omega)
      clear hc1 hc2
      by_cases he : l[j] = m[j]
      · have ht : ((l[j] : Int) != (m[j] : Int)) = false := by simp [he]
        have HN := Lib.hid (show ∀ k (h : k < l.length), k < j + 1 → l[k] = m[k]'(by omega) from fun k hk hkj => by
          by_cases c : k < j
          · exact hall.out k hk c
          · obtain rfl : k = j := by omega
            exact he)
        generalize l[j] = y at *
        generalize m[j] = z at *
        clear he hall
        go_wp2_with fail
        go_quiet (fail)
        go_wp2_with fail
        go_roundw
        case rel => exact ⟨j + 1, by omega, by go_num, HN, below_drewN hb _⟩
        case measure => simp [intOf]; omega
      · have ht : ((l[j] : Int) != (m[j] : Int)) = true := by rw [bne_iff_ne]; omega
        obtain rfl := HE.out j hlt he
        generalize l[j] = y at *
        generalize m[j] = z at *
        clear he hall
        go_wp2_with fail
        go_quiet (fail)
        go_wp2_with fail
        go_ret
        exact ⟨rfl, below_drewN hb _⟩
    · have b1 : ¬ (j : Int) < (l.length : Int) := by omega
      obtain rfl := HD.out (fun k hk => hall.out k hk (by omega))
      go_wp2_with fail
      go_ret
      exact ⟨rfl, hb⟩
theorem OwnG.rowN {w : World} {base : Nat} {v : Value} {l : List Nat} (h : OwnG (natC .u64) 26 w base v l) : ∃ A c d, v = .slice A l.length c ∧ ShowsG (natC .u64) w d (.slice A l.length c) l := by
  obtain ⟨A, c, rfl, _⟩ := h.form
  obtain ⟨d, _, hs⟩ := h.shows
  exact ⟨A, c, d, rfl, hs⟩
theorem fromD_if_le (x : WorkC) (q : ByteArray) : (fromD (ifW x).rs q).length ≤ 1000000 := by
  have := fromD_le (ifW x).rs q
  have h2 := (ifW_len (x := x)).2
  omega

end Go.Proofs.YtpmafabphlejeaaGreat
/-
  The contract of the document's Queues.
  Conditions: none but sizes.
-/
namespace Go.Proofs.YtpmafabphlejeaaGreat
open Go.RowKit
set_option linter.unusedVariables false
set_option linter.unusedSimpArgs false
set_option maxRecDepth 100000

/-- The names under way. -/
structure QueAt (w0 : World) (bv : Obj) (l ns : List Nm) (v : Value) (w : World) : Prop where
  own : OwnG strC 9 w (w0.heap.size + 1) v (ns.map str8)
  nm : NamesOf l ns
  le : ns.length ≤ l.length
  bel : Below w0.heap.size w0 w
  bx : Below (w0.heap.size + 1) (w0.alloc bv) w
def nmAll (ps : List PutE) (rs : List RefE) : List Nm := nmP ps ++ nmR rs
theorem nmAll_len (ps : List PutE) (rs : List RefE) : (nmAll ps rs).length = ps.length + rs.length := by simp [nmAll, nmP, nmR]
theorem nmAll_p (ps : List PutE) (rs : List RefE) (j : Nat) (h : j < ps.length) : (nmAll ps rs)[j]? = some (sb ps[j].q) := by
  unfold nmAll nmP
  rw [List.getElem?_append_left (by simpa using h), List.getElem?_map, List.getElem?_eq_getElem h]
  rfl
theorem nmAll_r (ps : List PutE) (rs : List RefE) (j : Nat) (h : j < rs.length) : (nmAll ps rs)[ps.length + j]? = some (sb rs[j].q) := by
  unfold nmAll nmP nmR
  rw [List.getElem?_append_right (by simp), List.getElem?_map]
  simp [List.getElem?_eq_getElem h]
theorem take_step {l : List Nm} {j : Nat} {x : Nm} (h : l[j]? = some x) : l.take (j + 1) = l.take j ++ [x] := by
  rw [List.take_add_one, h]
  rfl

set_option maxHeartbeats 4000000 in
theorem qqueues_any (x : WorkC) (w : World) (h : ShowsW w x) : Calls Tryz.prog 24 #[workVal x] w (QueSaid (nmP (ifW x).ps ++ nmR (ifW x).rs) w) := by
  have HC := Lib.hid (fun w' (hb : Below w.heap.size w w') => qcheckw_any x w' (h.kept hb (Nat.le_refl _)))
  have HSP := Lib.hid h.puts
  have HST := Lib.hid h.takes
  have hB0 := below_boxV w (Obj.cells #[.slice x.A1 x.cs.length x.c1, .slice x.A2 x.rs.length x.c2] 25)
  have hX0 := BoxK.new w (.slice x.A1 x.cs.length x.c1) (.slice x.A2 x.rs.length x.c2)
  have HX := Lib.hid (fun w' (hb : Below (w.heap.size + 1) (w.alloc (Obj.cells #[.slice x.A1 x.cs.length x.c1, .slice x.A2 x.rs.length x.c2] 25)) w') => (hX0.kept hb (by simp)))
  have k0 := hX0.c0
  have k1 := hX0.c1
  have HB0 := Lib.hid hB0
  unfold QueSaid
  cases hv : wB x.ps x.rs
  case false =>
    rw [errW_no hv] at HC
    have HR := Lib.hid (show NamesOf (nmP (ifW x).ps ++ nmR (ifW x).rs) [] by rw [ifW_no hv]; exact NamesOf.nil)
    clear h hX0 hB0 hv
    unfold workVal at *
    go_enter Tryz.func24, Tryz.ntmps24
    go_wp2_with fail
    refine (HC.out _ HB0.out).mono ?_
    rintro e w1 ⟨rfl, hb1⟩
    have HB1 := Lib.hid (HB0.out.trans (hb1.mono HB0.out.size))
    clear k0 k1 hb1
    go_wp2_with fail
    go_ret
    exact ⟨_, [], rfl, HR.out, OwnG.nil_ _ _ _ _, HB1.out⟩
  case true =>
  rw [errW_ok hv] at HC
  rw [ifW_ok hv]
  have hwv := wB_iff.1 hv
  have hn1 : x.cs.length ≤ 100 := by have := hwv.1; unfold WorkC.ps at this; rwa [esOf_len] at this
  have hn2 : x.rs.length ≤ 100 := hwv.2.1
  have hlen : (nmAll x.ps x.rs).length = x.cs.length + x.rs.length := by rw [nmAll_len]; unfold WorkC.ps; rw [esOf_len]
  obtain ⟨bv, hbv⟩ : ∃ bv, bv = Obj.cells #[.slice x.A1 x.cs.length x.c1, .slice x.A2 x.rs.length x.c2] 25 := ⟨_, rfl⟩
  obtain ⟨LL, hLL⟩ : ∃ LL, LL = nmAll x.ps x.rs := ⟨_, rfl⟩
  have HP := Lib.hid (fun j (hj : j < x.cs.length) => (show LL[j]? = some (sb x.cs[j].e.q) from by rw [hLL, nmAll_p _ _ j (by unfold WorkC.ps; rw [esOf_len]; exact hj)]; exact congrArg (fun p => some (sb p.q)) (esOf_get x.cs j hj)))
  have HT := Lib.hid (fun j (hj : j < x.rs.length) => (show LL[x.cs.length + j]? = some (sb x.rs[j].q) from by have := nmAll_r x.ps x.rs j hj; unfold WorkC.ps at this; rw [esOf_len] at this; rw [hLL]; exact this))
  have HLL := Lib.hid (show NamesOf LL = NamesOf (nmP x.ps ++ nmR x.rs) by rw [hLL]; rfl)
  rw [← hLL] at hlen
  have HLN := Lib.hid hlen
  have HBx : Hid (Below (w.heap.size + 1) (w.alloc bv) (w.alloc bv)) := Lib.hid (Below.refl _ _)
  rw [← hbv] at HX HB0 k0 k1
  have HBV := Lib.hid hbv
  clear h hX0 hB0 hv hwv hlen hLL
  unfold workVal at *
  go_enter Tryz.func24, Tryz.ntmps24
  go_upto_region 2 with fail
  rw [← hbv]
  clear hbv
  go_wp2_with fail
  refine (HC.out _ HB0.out).mono ?_
  rintro e w1 ⟨rfl, hb1⟩
  have HQ0 : Hid (QueAt w bv [] [] (.slice none 0 0) w1) := Lib.hid ⟨OwnG.nil_ _ _ _ _, NamesOf.nil, Nat.le_refl _, HB0.out.trans (hb1.mono HB0.out.size), HBx.out.trans (hb1.mono (by simp))⟩
  clear k0 k1 hb1
  go_wp2_with fail
  go_loopw [3, 4] (fun lv iv wr => ∃ (j : Nat) (ns : List Nm), j ≤ x.cs.length + x.rs.length ∧ iv = .int .i64 j ∧ Hid (QueAt w bv (LL.take j) ns lv wr)) (fun _ i _ => x.cs.length + x.rs.length - (intOf i).toNat)
  case atStart => exact ⟨0, [], by omega, rfl, Lib.hid (by simpa using HQ0.out)⟩
  case round =>
    rename World => wr
    obtain ⟨j, ns, hj, rfl, hq⟩ := hrel
    obtain ⟨Al, cl, hlv, hlc, hlm⟩ := hq.out.own.form
    rw [List.length_map] at hlv hlc
    subst hlv
    have k0 := (HX.out wr hq.out.bx).c0
    have k1 := (HX.out wr hq.out.bx).c1
    have hsum : IntKind.i64.wrap ((x.cs.length : Int) + (x.rs.length : Int)) = (x.cs.length : Int) + (x.rs.length : Int) := i64_id _ (by omega) (by omega)
    have hnl : ns.length ≤ 200 := by
      have := hq.out.le
      rw [List.length_take] at this
      have h2 := HLN.out
      omega
    by_cases hlt : j < x.cs.length + x.rs.length
    · have hj1 : (j : Int) < (x.cs.length : Int) + (x.rs.length : Int) := by omega
      have hj0 : (0 : Int) ≤ (j : Int) := by omega
      have b3 : IntKind.i64.wrap ((j : Int) + 1) = (j : Int) + 1 := i64_id _ (by omega) (by omega)
      go_upto_if 26 with fail
      go_cut [5] from 22 to 42 (fun a wx => ∃ q : ByteArray, a = .string q ∧ wx = wr ∧ Hid (LL[j]? = some (sb q)))
      case first =>
        by_cases hp : j < x.cs.length
        · obtain ⟨d, o, hXA, hd, ⟨e0, e1, e2, e3, e4, e5⟩, e6, e7, e8, e9, e10, e11⟩ := (HSP.out.kept hq.out.bel (Nat.le_refl _)).at_ j hp
          have hp1 : (j : Int) < (x.cs.length : Int) := by omega
          have HPJ := Lib.hid (HP.out j hp)
          rw [hXA] at k0
          clear hXA hd e1 e2 e3 e4 e5 e6 e7 e8 e9 e10 e11 hsum hlc hlm
          go_wp2_with fail
          go_meet
          case rel => exact ⟨_, rfl, rfl, HPJ⟩
        · have hp1 : ¬ (j : Int) < (x.cs.length : Int) := by omega
          obtain ⟨i, rfl⟩ : ∃ i, j = x.cs.length + i := ⟨j - x.cs.length, by omega⟩
          have hi : i < x.rs.length := by omega
          have hi1 : (i : Int) < (x.rs.length : Int) := by omega
          have hi2 : IntKind.i64.wrap (((x.cs.length + i : Nat) : Int) - (x.cs.length : Int)) = (i : Int) := by rw [i64_id _ (by omega) (by omega)]; omega
          obtain ⟨d, o, hXA, hd, c0, c1⟩ := (HST.out.kept hq.out.bel (Nat.le_refl _)).at_ i hi
          have HPJ := Lib.hid (HT.out i hi)
          rw [hXA] at k1
          clear hXA hd c1 hsum hlc hlm
          go_wp2_with fail
          go_meet
          case rel => exact ⟨_, rfl, rfl, HPJ⟩
      case rest =>
        intros
        obtain ⟨q, rfl, rfl, hqj⟩ := hcut
        rename World => wr
        clear k0 k1
        have hHL : Hid (cl ≤ maxLen ∧ ns.length ≤ cl) := Lib.hid ⟨hlm, hlc⟩
        clear hlm hlc hsum
        go_upto_block 2 with fail
        go_cut [6] from 43 to 56 (fun a wx => ∃ k : Nat, k ≤ ns.length ∧ a = .int .i64 k ∧ wx = wr ∧ Hid (∀ m (hm : m < ns.length), m < k → ns[m] < sb q) ∧ Hid (∀ hk : k < ns.length, ¬ ns[k] < sb q))
        case first =>
          go_wp2_with fail
          go_loopw [6] (fun av wi => ∃ (k : Nat), k ≤ ns.length ∧ av = .int .i64 k ∧ wi = wr ∧ Hid (∀ m (hm : m < ns.length), m < k → ns[m] < sb q)) (fun a _ => ns.length - (intOf a).toNat)
          case atStart => exact ⟨0, by omega, rfl, rfl, Lib.hid fun m _ h => absurd h (by omega)⟩
          case round =>
            obtain ⟨k, hk, rfl, rfl, hlo⟩ := hrel
            rename World => wr
            by_cases hkl : k < ns.length
            · obtain ⟨b, hAl, hbb, hbl, _, hcl⟩ := hq.out.own.at_ (by omega)
              have c0 := hcl k (by rw [List.length_map]; exact hkl) 0 (by decide)
              rw [List.getElem_map] at c0
              have c0' : wr.cell? ⟨b, k, none⟩ = some (.string (str8 ns[k])) := by simpa [strC] using c0
              subst hAl
              have hk1 : (k : Int) < (ns.length : Int) := by omega
              have hk0 : (0 : Int) ≤ (k : Int) := by omega
              have b4 : IntKind.i64.wrap ((k : Int) + 1) = (k : Int) + 1 := i64_id _ (by omega) (by omega)
              have hse : Op.bytesLess (str8 ns[k]).toList q.toList = decide (ns[k] < sb q) := by rw [str8_toList, sb_toList]; exact bytesLess_eq _ _
              clear hcl c0 hbb hbl
              by_cases hqq : ns[k] < sb q
              · have HN := Lib.hid (show ∀ m (hm : m < ns.length), m < k + 1 → ns[m] < sb q from fun m hm hmk => by
                  by_cases c : m < k
                  · exact hlo.out m hm c
                  · obtain rfl : m = k := by omega
                    exact hqq)
                rw [decide_eq_true hqq] at hse
                clear hqq hlo
                go_wp2_with fail
                go_roundw
                case rel => exact ⟨k + 1, by omega, by go_num, by first | trivial | rfl, HN⟩
                case measure => simp [intOf]; omega
              · have HN := Lib.hid (show ∀ hk : k < ns.length, ¬ ns[k] < sb q from fun _ => hqq)
                rw [decide_eq_false hqq] at hse
                clear hqq
                go_wp2_with fail
                go_meet
                case rel => exact ⟨k, hk, rfl, rfl, hlo, HN⟩
            · have HN := Lib.hid (show ∀ hk : k < ns.length, ¬ ns[k] < sb q from fun h => absurd h hkl)
              have hk1 : ¬ (k : Int) < (ns.length : Int) := by omega
              go_wp2_with fail
              go_meet
              case rel => exact ⟨k, hk, rfl, rfl, hlo, HN⟩
        case rest =>
          intros
          obtain ⟨k, hk, rfl, rfl, hlo, hhi⟩ := hcut
          rename World => wr
          have hlj : j < LL.length := by rw [HLN.out]; exact hlt
          have hst := take_step hqj.out
          have hlk : (LL.take j).length = j := by rw [List.length_take]; omega
          have hlk1 : (LL.take (j + 1)).length = j + 1 := by rw [List.length_take]; omega
          by_cases hth : ∃ h : k < ns.length, ns[k] = sb q
          · obtain ⟨hkl, hkq⟩ := hth
            obtain ⟨b, hAl, hbb, hbl, _, hcl⟩ := hq.out.own.at_ (by omega)
            have c0 := hcl k (by rw [List.length_map]; exact hkl) 0 (by decide)
            rw [List.getElem_map, hkq, str8_sb] at c0
            have c0' : wr.cell? ⟨b, k, none⟩ = some (.string q) := by simpa [strC] using c0
            have HQ1 : Hid (QueAt w bv (LL.take (j + 1)) ns (.slice Al ns.length cl) wr) := Lib.hid ⟨hq.out.own, by rw [hst]; exact hq.out.nm.there (by rw [← hkq]; exact List.getElem_mem hkl), by have := hq.out.le; omega, hq.out.bel, hq.out.bx⟩
            subst hAl
            have hk1 : (k : Int) < (ns.length : Int) := by omega
            have hk0 : (0 : Int) ≤ (k : Int) := by omega
            have hee : (q.toList == q.toList) = true := by simp
            clear hcl c0 hbb hbl hkq hst hlk hlk1 hlj
            go_wp2_with fail
            go_roundw
            case rel => exact ⟨j + 1, ns, by omega, by go_num, HQ1⟩
            case measure => simp [intOf]; omega
          · have HI := Lib.hid (show ∀ hk : k < ns.length, sb q < ns[k] from fun hk => lt_of_not (hhi.out hk) fun e => hth ⟨hk, e⟩)
            have HNQ : Hid (QueAt w bv (LL.take j) ns (.slice Al ns.length cl) wr) := hq
            have HEND := Lib.hid (fun w3 v3 (hb3 : Below wr.heap.size wr w3) (ho : OwnG strC 9 w3 wr.heap.size v3 ((ns.map str8).take k ++ [q] ++ (ns.map str8).drop k)) => (show QueAt w bv (LL.take (j + 1)) (ns.take k ++ [sb q] ++ ns.drop k) v3 w3 from by
              have hz := hq.out.bx.size
              rw [World.size_alloc] at hz
              have e : (ns.take k ++ [sb q] ++ ns.drop k).map str8 = (ns.map str8).take k ++ [q] ++ (ns.map str8).drop k := by simp [List.map_append, List.map_take, List.map_drop, str8_sb]
              refine ⟨by rw [e]; exact ho.mono (by omega), by rw [hst]; exact hq.out.nm.insert hk (fun m hm hmk => hlo.out m hm hmk) HI.out, ?_, hq.out.bel.trans (hb3.mono hq.out.bel.size), hq.out.bx.trans (hb3.mono (by omega))⟩
              rw [hlk1]
              have := hq.out.le
              rw [hlk] at this
              simp only [List.length_append, List.length_take, List.length_drop, List.length_singleton]
              omega))
            have HV := Lib.hid (fun w1 (hb1 : Below wr.heap.size wr w1) => (show ∃ g, ShowsG strC w1 g (.slice Al k cl) ((ns.map str8).take k) ∧ ∀ (A' : Option Addr) (c' : Nat), (¬ cl = k → A' = Al.map (fun x => x.add (k * 1))) → ns.length - k ≤ c' → c' ≤ maxLen → ShowsG strC w1 g (.slice A' (ns.length - k) c') ((ns.map str8).drop k) from by
              obtain ⟨g, _, hs⟩ := hq.out.own.shows
              have hs1 := hs.below' hb1 (Nat.le_refl _)
              have hkm : k ≤ (ns.map str8).length := by rw [List.length_map]; exact hk
              exact ⟨g, hs1.head' hkm (by have := hHL.out; omega) (Nat.le_refl _), fun A' c' hA h1 h2 => hs1.tail' hkm A' (fun h => hA (by rw [List.length_map] at h; have := hHL.out; omega)) h1 h2⟩))
            have HCU : Hid (k < ns.length → ∃ b, Al = some ⟨b, 0, none⟩ ∧ ∃ y : ByteArray, (y.toList == q.toList) = false ∧ wr.cell? ⟨b, k, none⟩ = some (.string y)) := Lib.hid (fun hkl => by
              obtain ⟨b, hAl, _, _, _, hcl⟩ := hq.out.own.at_ (by omega)
              have c0 := hcl k (by rw [List.length_map]; exact hkl) 0 (by decide)
              rw [List.getElem_map] at c0
              refine ⟨b, hAl, str8 ns[k], ?_, by simpa [strC] using c0⟩
              rw [str8_toList, sb_toList]
              exact beq_eq_false_iff_ne.2 fun e => hth ⟨hkl, e⟩)
            have hk2 : (k : Int) ≤ (ns.length : Int) := by omega
            have hk3 : (k : Int) ≤ (cl : Int) := by have := hHL.out; omega
            have hk0 : (0 : Int) ≤ (k : Int) := by omega
            clear hth hst hlk hlk1 hlj hq hlo hhi
            by_cases hkl : k < ns.length
            · obtain ⟨b, rfl, y, hy, c0⟩ := HCU.out hkl
              have hk1 : (k : Int) < (ns.length : Int) := by omega
              go_upto_region 16 with fail
              obtain ⟨g0, hV1, _⟩ := HV.out wr (Below.refl _ _)
              go_wp2_with (first
                | (at_builtin
                   refine wpList_appendG strC _ rfl (.tmp 69) (.tmp 72) 28 rfl wr.heap.size 9 _ 16 Tryz.underlying28 infoStr rfl _ [] rfl (OwnG.nil_ _ _ _ _) g0 _ ((ns.map str8).take k) rfl hV1 (by simp; omega) (by simp; omega) (Nat.le_refl _) ?_
                   intro v1 w1 ho1 hg1
                   have hb1 := (Below.refl wr.heap.size wr).grown hg1 (Nat.le_refl _) (fun j hj => by cases hj)
                   rw [List.nil_append] at ho1)
                | (at_builtin
                   refine wpList_appendG strC _ rfl (.tmp 74) (.tmp 76) 28 rfl wr.heap.size 9 _ 16 Tryz.underlying28 infoStr rfl _ ((ns.map str8).take k) rfl (ho1.alloc_ _) w1.heap.size _ [q] rfl (ShowsG.lit (C := strC) (w := w1) [q] rfl (by simp [maxLen])) (by simp; omega) (by simp; omega) (by have := hb1.size; simp; omega) ?_
                   intro v2 w2 ho2 hg2
                   have hb2 := (hb1.alloc hb1.size _).grown hg2 (by simp; have := hb1.size; omega) (fun k hk => (ho1.block k hk).1)
                   obtain ⟨g2, _, hV2⟩ := HV.out w2 hb2)
                | (at_builtin
                   refine wpList_appendG strC _ rfl (.tmp 78) (.tmp 81) 28 rfl wr.heap.size 9 _ 16 Tryz.underlying28 infoStr rfl _ ((ns.map str8).take k ++ [q]) rfl ho2 g2 _ ((ns.map str8).drop k) rfl (hV2 _ _ (by first | exact fun _ => rfl | exact fun h => if_neg h | exact fun h => absurd rfl h | exact fun h => absurd (by assumption) h | (intro h; simp [h, add_plain'])) (by have := hHL.out; omega) (by have := hHL.out; omega)) (by have := hHL.out; simp; omega) (by have := hHL.out; simp; omega) hb2.size ?_
                   intro v3 w3 ho3 hg3
                   have hb3 := hb2.grown hg3 hb2.size (fun k hk => (ho2.block k hk).1)
                   have HQ3 := Lib.hid (HEND.out w3 _ hb3 ho3)))
              all_goals
                go_roundw
                case rel => exact ⟨j + 1, _, by omega, by go_num, HQ3⟩
                case measure => simp [intOf]; omega
            · have hk1 : ¬ (k : Int) < (ns.length : Int) := by omega
              go_upto_region 16 with fail
              obtain ⟨g0, hV1, _⟩ := HV.out wr (Below.refl _ _)
              go_wp2_with (first
                | (at_builtin
                   refine wpList_appendG strC _ rfl (.tmp 69) (.tmp 72) 28 rfl wr.heap.size 9 _ 16 Tryz.underlying28 infoStr rfl _ [] rfl (OwnG.nil_ _ _ _ _) g0 _ ((ns.map str8).take k) rfl hV1 (by simp; omega) (by simp; omega) (Nat.le_refl _) ?_
                   intro v1 w1 ho1 hg1
                   have hb1 := (Below.refl wr.heap.size wr).grown hg1 (Nat.le_refl _) (fun j hj => by cases hj)
                   rw [List.nil_append] at ho1)
                | (at_builtin
                   refine wpList_appendG strC _ rfl (.tmp 74) (.tmp 76) 28 rfl wr.heap.size 9 _ 16 Tryz.underlying28 infoStr rfl _ ((ns.map str8).take k) rfl (ho1.alloc_ _) w1.heap.size _ [q] rfl (ShowsG.lit (C := strC) (w := w1) [q] rfl (by simp [maxLen])) (by simp; omega) (by simp; omega) (by have := hb1.size; simp; omega) ?_
                   intro v2 w2 ho2 hg2
                   have hb2 := (hb1.alloc hb1.size _).grown hg2 (by simp; have := hb1.size; omega) (fun k hk => (ho1.block k hk).1)
                   obtain ⟨g2, _, hV2⟩ := HV.out w2 hb2)
                | (at_builtin
                   refine wpList_appendG strC _ rfl (.tmp 78) (.tmp 81) 28 rfl wr.heap.size 9 _ 16 Tryz.underlying28 infoStr rfl _ ((ns.map str8).take k ++ [q]) rfl ho2 g2 _ ((ns.map str8).drop k) rfl (hV2 _ _ (by first | exact fun _ => rfl | exact fun h => if_neg h | exact fun h => absurd rfl h | exact fun h => absurd (by assumption) h | (intro h; simp [h, add_plain'])) (by have := hHL.out; omega) (by have := hHL.out; omega)) (by have := hHL.out; simp; omega) (by have := hHL.out; simp; omega) hb2.size ?_
                   intro v3 w3 ho3 hg3
                   have hb3 := hb2.grown hg3 hb2.size (fun k hk => (ho2.block k hk).1)
                   have HQ3 := Lib.hid (HEND.out w3 _ hb3 ho3)))
              all_goals
                go_roundw
                case rel => exact ⟨j + 1, _, by omega, by go_num, HQ3⟩
                case measure => simp [intOf]; omega
    · have hj1 : ¬ (j : Int) < (x.cs.length : Int) + (x.rs.length : Int) := by omega
      have HF := Lib.hid (show NamesOf (nmP x.ps ++ nmR x.rs) ns by
        rw [← HLL.out]
        have := hq.out.nm
        rwa [List.take_of_length_le (by rw [HLN.out]; omega)] at this)
      clear hlm hlc
      go_wp2_with fail
      go_ret
      exact ⟨_, rfl, ns, HF.out, hq.out.own.mono (Nat.le_succ _), hq.out.bel⟩

end Go.Proofs.YtpmafabphlejeaaGreat
