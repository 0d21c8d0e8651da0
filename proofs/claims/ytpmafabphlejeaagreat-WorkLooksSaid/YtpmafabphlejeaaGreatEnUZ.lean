/-
  What the document calls a small entry.
  Conditions: none but sizes.
-/
import Derived.Test.YtpmafabphlejeaaGreatEnBZ
import Derived.Test.YtpmafabphlejeaaGreatPrFZ
namespace Go.Proofs.YtpmafabphlejeaaGreat
open Go.RowKit
set_option linter.unusedVariables false
set_option linter.unusedSimpArgs false
set_option maxRecDepth 100000

def FewS (cs : List PutC) : Prop := ∀ j (h : j < cs.length), cntT cs[j].e.p.app ≤ 400
theorem FewS.few {cs : List PutC} (h : FewS cs) : Few cs := fun j hj => Nat.le_trans (h j hj) (by decide)
def SmallPSaid (cs : List PutC) (w : World) (e : Ending) (w' : World) : Prop := ∃ r : Bool, e = .returned (.bool r) ∧ (r = true → cs.length ≤ 110 ∧ FewS cs) ∧ Below w.heap.size w w'
theorem smallp_no {cs : List PutC} {w w' : World} {e : Ending} (h1 : e = .returned (.bool false)) (h3 : Below w.heap.size w w') : SmallPSaid cs w e w' := ⟨false, h1, (fun h => by cases h), h3⟩
theorem smallp_yes {cs : List PutC} {w w' : World} {e : Ending} (h1 : e = .returned (.bool true)) (h2 : cs.length ≤ 110 ∧ FewS cs) (h3 : Below w.heap.size w w') : SmallPSaid cs w e w' := ⟨true, h1, fun _ => h2, h3⟩

set_option maxHeartbeats 8000000 in
theorem smallPuts_any (A : Option Addr) (n : Nat) (cs : List PutC) (w : World) (h : RowP w A n cs) :
    Calls Tryz.prog 8 #[.slice A cs.length n, .int .i64 110] w (SmallPSaid cs w) := by
  have hlm := h.lm
  have HS := Lib.hid (fun j (hj : j < cs.length) w' (hb : Below w.heap.size w w') => psmall_any cs[j].e.p _ _ _ _ _ w' ((h.each j hj).pr.kept hb (Nat.le_refl _)))
  unfold SmallSaid propV at HS
  by_cases h110 : cs.length ≤ 110
  case neg =>
    have t : decide ((110 : Int) < (cs.length : Int)) = true := by simp; omega
    go_enter Tryz.func8, Tryz.ntmps8
    go_wp2_with fail
    go_ret
    exact smallp_no rfl (Below.refl _ _)
  have t : decide ((110 : Int) < (cs.length : Int)) = false := by simp; omega
  go_enter Tryz.func8, Tryz.ntmps8
  go_wp2_with fail
  clear t
  go_loopw [5, 6] (fun lv iv wr => ∃ j L : Nat, j ≤ cs.length ∧ lv = .int .i64 L ∧ iv = .int .i64 j ∧ L ≤ 20000 ∧ Below w.heap.size w wr ∧ ∀ q (h1 : q < cs.length), q < j → cntT cs[q].e.p.app ≤ 400) (fun _ i _ => cs.length - (intOf i).toNat)
  case atStart => exact ⟨0, 20000, by omega, rfl, rfl, by omega, Below.refl _ _, fun q _ h => absurd h (by omega)⟩
  case round =>
    rename World => x
    obtain ⟨j, L, hj, rfl, rfl, hL, hb, hlo⟩ := hrel
    by_cases hlt : j < cs.length
    · obtain ⟨d, o, rfl, hd, ⟨e0, e1, e2, e3, e4, e5⟩, e6, e7, e8, e9, e10, e11⟩ := (h.kept hb (Nat.le_refl _)).at_ j hlt
      have hj1 : (j : Int) < (cs.length : Int) := by omega
      have hsj := HS.out j hlt x hb
      by_cases hbd : cs[j].e.body.size ≤ L
      case neg =>
        have t1 : decide ((L : Int) < (cs[j].e.body.size : Int)) = true := by simp; omega
        clear hsj
        go_wp2_with fail
        go_ret
        exact smallp_no rfl hb
      have t1 : decide ((L : Int) < (cs[j].e.body.size : Int)) = false := by simp; omega
      by_cases hqs : cs[j].e.q.size ≤ 200
      case neg =>
        have t2 : decide ((200 : Int) < (cs[j].e.q.size : Int)) = true := by simp; omega
        clear hsj
        go_wp2_with fail
        go_ret
        exact smallp_no rfl hb
      have t2 : decide ((200 : Int) < (cs[j].e.q.size : Int)) = false := by simp; omega
      have HSJ := Lib.hid hsj
      clear hsj
      go_wp2_with fail
      refine HSJ.out.mono ?_
      rintro e wx ⟨r, rfl, hr, hx⟩
      have hbx := hb.trans (hx.mono hb.size)
      cases r with
      | false =>
        go_wp2_with fail
        go_ret
        exact smallp_no rfl hbx
      | true =>
      have HLO : Hid (∀ q (h1 : q < cs.length), q < j + 1 → cntT cs[q].e.p.app ≤ 400) := by
        show ∀ q (h1 : q < cs.length), q < j + 1 → cntT cs[q].e.p.app ≤ 400
        intro q h1 hqj
        by_cases hqj2 : q < j
        · exact hlo q h1 hqj2
        · obtain rfl : q = j := by omega
          exact hr rfl
      obtain ⟨_, _, hoo, _, ⟨g0, g1, g2, g3, g4, g5⟩, g6, g7, g8, g9, g10, g11⟩ := (h.kept hbx (Nat.le_refl _)).at_ j hlt
      cases hoo
      have hw : IntKind.i64.wrap ((L : Int) - (cs[j].e.body.size : Int)) = ((L - cs[j].e.body.size : Nat) : Int) := by rw [IntKind.wrap_i64]; omega
      have hL2 : L - cs[j].e.body.size ≤ 20000 := by omega
      have HL2 := Lib.hid hL2
      clear hr hlo hL2 e0 e1 e2 e3 e4 e5 e6 e7 e8 e9 e10 e11
      go_wp2_with fail
      go_roundw
      case rel => exact ⟨j + 1, _, by omega, rfl, by go_num, HL2.out, hbx, HLO.out⟩
      case measure => simp [intOf]; omega
    · have hjl : ¬ (j : Int) < (cs.length : Int) := by omega
      have HFI := Lib.hid (show cs.length ≤ 110 ∧ FewS cs from ⟨h110, fun q h1 => hlo q h1 (by omega)⟩)
      clear hlo
      go_wp2_with fail
      go_ret
      exact smallp_yes rfl HFI.out hb

/-- What Small tells. -/
def SmallESaid (x : EntC) (w : World) (e : Ending) (w' : World) : Prop := ∃ r : Bool, e = .returned (.bool r) ∧ (r = true → x.cs.length ≤ 110 ∧ FewS x.cs ∧ x.rs.length ≤ 110) ∧ Below w.heap.size w w'
theorem smalle_no {x : EntC} {w w' : World} {e : Ending} (h1 : e = .returned (.bool false)) (h3 : Below w.heap.size w w') : SmallESaid x w e w' := ⟨false, h1, (fun h => by cases h), h3⟩
theorem smalle_yes {x : EntC} {w w' : World} {e : Ending} (h1 : e = .returned (.bool true)) (h2 : x.cs.length ≤ 110 ∧ FewS x.cs ∧ x.rs.length ≤ 110) (h3 : Below w.heap.size w w') : SmallESaid x w e w' := ⟨true, h1, fun _ => h2, h3⟩
set_option maxHeartbeats 8000000 in
theorem esmall_any (x : EntC) (w : World) (h : ShowsE w x) : Calls Tryz.prog 32 #[entV x] w (SmallESaid x w) := by
  have HP := Lib.hid (fun w' (hb : Below w.heap.size w w') => smallPuts_any x.A1 x.c1 x.cs w' (h.puts.kept hb (Nat.le_refl _)))
  unfold SmallPSaid at HP
  have hlr := h.takes.lm
  have hrow := h.takes
  have hB := below_boxV w (Obj.cells #[.int .u8 x.k, .string x.name, .int .u64 x.n, .int .u32 x.xf, .string x.xg, .string x.xh, .slice x.A1 x.cs.length x.c1, .slice x.A2 x.rs.length x.c2] 57)
  have hBX := BoxE.new (x := x) w
  have HB := Lib.hid hB
  have HBX := Lib.hid hBX
  obtain ⟨k, name, n, xf, xg, xh, A1, c1, cs, A2, c2, rs⟩ := x
  unfold entV
  simp only [] at *
  obtain ⟨⟨e0, e1, e2⟩, ⟨e3, e4, e5⟩, e6, e7⟩ := hBX.cells
  simp only [] at e0 e1 e2 e3 e4 e5 e6 e7
  clear h hB hBX
  by_cases h110 : rs.length ≤ 110
  case neg =>
    have t1 : decide ((110 : Int) < (rs.length : Int)) = true := by simp; omega
    go_enter Tryz.func32, Tryz.ntmps32
    go_wp2_with fail
    go_ret
    exact smalle_no rfl HB.out
  have t1 : decide ((110 : Int) < (rs.length : Int)) = false := by simp; omega
  by_cases h200 : name.size ≤ 200
  case neg =>
    have t2 : decide ((200 : Int) < (name.size : Int)) = true := by simp; omega
    go_enter Tryz.func32, Tryz.ntmps32
    go_wp2_with fail
    go_ret
    exact smalle_no rfl HB.out
  have t2 : decide ((200 : Int) < (name.size : Int)) = false := by simp; omega
  go_enter Tryz.func32, Tryz.ntmps32
  go_wp2_with fail
  refine (HP.out _ HB.out).mono ?_
  rintro e w2 ⟨r, rfl, hr, hb2⟩
  have hb02 := HB.out.trans (hb2.mono HB.out.size)
  have hbx2 := HBX.out.kept hb2 (Nat.le_refl _)
  clear e0 e1 e2 e3 e4 e5 e6 e7
  cases r with
  | false =>
    go_wp2_with fail
    go_ret
    exact smalle_no rfl hb02
  | true =>
  have HR := Lib.hid (hr rfl)
  clear hr
  go_wp2_with fail
  go_loopw [3] (fun iv wr => ∃ j : Nat, j ≤ rs.length ∧ iv = .int .i64 j ∧ wr = w2) (fun i _ => rs.length - (intOf i).toNat)
  case atStart => exact ⟨0, by omega, rfl, rfl⟩
  case round =>
    obtain ⟨j, hj, rfl, rfl⟩ := hrel
    obtain ⟨_, _, _, e7⟩ := hbx2.cells
    simp only [] at e7
    by_cases hlt : j < rs.length
    · obtain ⟨d, o, rfl, hd, g0, g1⟩ := (hrow.kept hb02 (Nat.le_refl _)).at_ j hlt
      have hj1 : (j : Int) < (rs.length : Int) := by omega
      by_cases hqs : rs[j].q.size ≤ 200
      · have t3 : decide ((200 : Int) < (rs[j].q.size : Int)) = false := by simp; omega
        go_wp2_with fail
        go_roundw
        case rel => exact ⟨j + 1, by omega, by go_num, by first | rfl | trivial⟩
        case measure => simp [intOf]; omega
      · have t3 : decide ((200 : Int) < (rs[j].q.size : Int)) = true := by simp; omega
        go_wp2_with fail
        go_ret
        exact smalle_no rfl hb02
    · have hjl : ¬ (j : Int) < (rs.length : Int) := by omega
      go_wp2_with fail
      go_ret
      exact smalle_yes rfl ⟨HR.out.1, HR.out.2, h110⟩ hb02

end Go.Proofs.YtpmafabphlejeaaGreat
