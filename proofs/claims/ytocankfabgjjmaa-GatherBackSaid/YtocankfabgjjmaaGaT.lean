/-
  The contract of the document's own Same for assemblies.
  Conditions: none but sizes.
-/
import Derived.Test.YtocankfabgjjmaaGaA
import Derived.Test.YtocankfabgjjmaaFrI
namespace Go.Proofs.Ytocankfabgjjmaa
open Go.RowKit
set_option linter.unusedVariables false
set_option linter.unusedSimpArgs false

theorem sgGuard : Try.prog.eqGuardType Try.prog.depth 46 = false := by kernel_rfl
theorem sgFields : Try.prog.underlying 46 = some (.struct (Try.prog.fieldsOf 46)) := by kernel_rfl
theorem sgHeld : Try.prog.stoodInHeld 46 = false := by kernel_rfl
theorem run_eq_sg (f g : Sg) (w : World) : (Op.equalIn 10000 46 (.agg #[.int .u8 f.t, .string f.p]) (.agg #[.int .u8 g.t, .string g.p])).run Try.prog w = .ok (decide (f = g)) w := by
  rw [run_equalIn_agg w 9999 46 _ _ sgFields sgHeld]
  have hm : (Try.prog.fieldsOf 46).toList.map (fun f => (f.type, f.offset, f.name == "_")) = [(5, 0, false), (9, 1, false)] := by kernel_rfl
  generalize (Try.prog.fieldsOf 46).toList = fs at hm ⊢
  obtain ⟨f0, t0, rfl, p0, hm⟩ := List.map_eq_cons_iff.1 hm
  obtain ⟨f1, t1, rfl, p1, hm⟩ := List.map_eq_cons_iff.1 hm
  obtain rfl : t1 = [] := List.map_eq_nil_iff.1 hm
  simp only [Prod.mk.injEq] at p0 p1
  obtain ⟨a0, b0, c0⟩ := p0
  obtain ⟨a1, b1, c1⟩ := p1
  have d0 : ¬ f0.name = "_" := by simpa using c0
  have d1 : ¬ f1.name = "_" := by simpa using c1
  have e2 : ∀ x y : Nat, (Op.equalIn 9999 5 (.int .u8 (x : Int)) (.int .u8 (y : Int))).run Try.prog w = .ok ((x : Int) == (y : Int)) w := fun x y => run_equalIn_int w 9998 5 .u8 .u8 _ _ Try.underlying5
  have e4 : ∀ x y : ByteArray, (Op.equalIn 9999 9 (.string x) (.string y)).run Try.prog w = .ok (decide (x = y)) w := fun x y => by rw [← toList_beq]; exact run_equalIn_string w 9998 9 _ _ Try.underlying9
  obtain ⟨ft, fp⟩ := f
  obtain ⟨gt, gp⟩ := g
  simp only [Sg.mk.injEq]
  by_cases k4 : ft = gt
  · by_cases k7 : fp = gp
    · simp [Op.eqFields, part, a0, b0, d0, a1, b1, d1, e2, e4, k4, k7]
    · simp [Op.eqFields, part, a0, b0, d0, a1, b1, d1, e2, e4, k4, k7]
  · simp [Op.eqFields, part, a0, b0, d0, e2, e4, k4]
    intro h
    omega

set_option maxRecDepth 100000 in
set_option maxHeartbeats 8000000 in
theorem asame_any (ch1 k1 ch2 k2 : Nat) (A1 A2 : Option Addr) (c1 c2 d1 d2 : Nat) (l m : List Sg) (w : World) (h1 : ShowsG sgC w d1 (.slice A1 l.length c1) l) (h2 : ShowsG sgC w d2 (.slice A2 m.length c2) m) (hb : l.length ≤ 17592186044416) (hb2 : m.length ≤ 17592186044416) :
    Calls Try.prog 9 #[asV ch1 k1 (.slice A1 l.length c1), asV ch2 k2 (.slice A2 m.length c2)] w fun e w' => e = .returned (.bool (decide (ch1 = ch2 ∧ k1 = k2 ∧ l = m))) ∧ Below w.heap.size w w' := by
  obtain ⟨R, hR⟩ : ∃ R, R = decide (ch1 = ch2 ∧ k1 = k2 ∧ l = m) := ⟨_, rfl⟩
  rw [← hR]
  have HR := Lib.hid hR
  have hXa := (BoxA.new w ch1 k1 (.slice A1 l.length c1)).kept (f_below_box _ (Obj.cells #[.int .u16 ch2, .int .u8 k2, .slice A2 m.length c2] 34)) (Nat.le_refl _)
  have hXb := BoxA.new (w.alloc (Obj.cells #[.int .u16 ch1, .int .u8 k1, .slice A1 l.length c1] 34)) ch2 k2 (.slice A2 m.length c2)
  rw [World.size_alloc] at hXb
  have hbw : Below w.heap.size w ((w.alloc (Obj.cells #[.int .u16 ch1, .int .u8 k1, .slice A1 l.length c1] 34)).alloc (Obj.cells #[.int .u16 ch2, .int .u8 k2, .slice A2 m.length c2] 34)) := (f_below_box w _).alloc (by simp) _
  have hs1 := h1.below' hbw (Nat.le_refl _)
  have hs2 := h2.below' hbw (Nat.le_refl _)
  unfold asV
  generalize hW : (w.alloc (Obj.cells #[.int .u16 ch1, .int .u8 k1, .slice A1 l.length c1] 34)).alloc (Obj.cells #[.int .u16 ch2, .int .u8 k2, .slice A2 m.length c2] 34) = W at *
  have HW := Lib.hid hW
  have HB := Lib.hid hbw
  have x0 := hXa.c0
  have x1 := hXa.c1
  have x2 := hXa.c2
  have y0 := hXb.c0
  have y1 := hXb.c1
  have y2 := hXb.c2
  clear hR hW hXa hXb hbw h1 h2
  by_cases hch : ch1 = ch2
  · have e1 : ((ch1 : Int) != (ch2 : Int)) = false := by simp; omega
    by_cases hk : k1 = k2
    · have e2 : ((k1 : Int) != (k2 : Int)) = false := by simp; omega
      by_cases hlen : l.length = m.length
      · have e3 : ((l.length : Int) != (m.length : Int)) = false := by simp; omega
        have HLEN := Lib.hid hlen
        have hR2 : R = decide (l = m) := by rw [HR.out]; simp [hch, hk]
        have HR2 := Lib.hid hR2
        clear hch hk hlen hR2
        go_enter Try.func9, Try.ntmps9
        go_upto_region 1 with fail
        rw [HW.out]
        go_wp2_with fail
        go_loopw [5] (fun i wr => ∃ j q : Nat, j ≤ l.length ∧ i = .int .i64 j ∧ wr = W.drewN q ∧ Hid (l.take j = m.take j)) (fun i _ => l.length - (intOf i).toNat)
        case atStart => exact ⟨0, 0, Nat.zero_le _, rfl, rfl, Lib.hid rfl⟩
        case round =>
          obtain ⟨j, q, hj, rfl, rfl, hsame⟩ := hrel
          by_cases hlt : j < l.length
          · have hlt2 : j < m.length := by have := HLEN.out; omega
            obtain ⟨o, rfl, _, hcl⟩ := hs1.at_ (by omega)
            obtain ⟨o', rfl, _, hcm⟩ := hs2.at_ (by omega)
            obtain ⟨p0, p1⟩ := sg_cell hcl hlt
            obtain ⟨q0, q1⟩ := sg_cell hcm hlt2
            have hjl : (j : Int) < (l.length : Int) := by omega
            have hjm : (j : Int) < (m.length : Int) := by omega
            have hG := sgGuard
            by_cases heq : l[j] = m[j]
            · have HS := Lib.hid (show l.take (j + 1) = m.take (j + 1) by rw [List.take_succ_eq_append_getElem hlt, List.take_succ_eq_append_getElem hlt2, hsame.out, heq])
              have hE2 := run_eq_sg l[j] m[j]
              rw [decide_eq_true heq] at hE2
              clear hcl hcm heq
              generalize l[j] = f at *
              generalize m[j] = g at *
              obtain ⟨ft, fp⟩ := f
              obtain ⟨gt, gp⟩ := g
              simp only [] at hE2 p0 p1 q0 q1
              go_wp2_with fail
              go_quiet (fail)
              go_wp2_with fail
              go_roundw
              case rel => exact ⟨j + 1, _, by omega, by go_num, rfl, HS⟩
              case measure => simp [intOf]; omega
            · have hfin : R = false := by
                rw [HR2.out]
                simp
                rintro rfl
                exact heq rfl
              have hE2 := run_eq_sg l[j] m[j]
              rw [decide_eq_false heq] at hE2
              clear hcl hcm heq
              generalize l[j] = f at *
              generalize m[j] = g at *
              obtain ⟨ft, fp⟩ := f
              obtain ⟨gt, gp⟩ := g
              simp only [] at hE2 p0 p1 q0 q1
              have HF := Lib.hid hfin
              clear hfin
              go_wp2_with fail
              go_quiet (fail)
              go_wp2_with fail
              go_ret
              exact ⟨by first | rfl | (rw [HF.out]; rfl), below_drewN (below_drewN HB.out _) _⟩
          · have hjl : ¬ (j : Int) < (l.length : Int) := by omega
            have hfin : R = true := by
              rw [HR2.out]
              have := hsame.out
              rw [List.take_of_length_le (by omega), List.take_of_length_le (by have := HLEN.out; omega)] at this
              simpa using this
            have HF := Lib.hid hfin
            clear hfin
            go_wp2_with fail
            go_ret
            exact ⟨by first | rfl | (rw [HF.out]; rfl), below_drewN HB.out _⟩
      · have e3 : ((l.length : Int) != (m.length : Int)) = true := by simp; omega
        have hfin : R = false := by
          rw [HR.out]
          simp
          rintro _ _ rfl
          exact hlen rfl
        have HF := Lib.hid hfin
        clear hfin hlen hch hk
        go_enter Try.func9, Try.ntmps9
        go_upto_region 1 with fail
        rw [HW.out]
        go_wp2_with fail
        go_ret
        exact ⟨by first | rfl | (rw [HF.out]; rfl), HB.out⟩
    · have e2 : ((k1 : Int) != (k2 : Int)) = true := by simp; omega
      have hfin : R = false := by rw [HR.out]; simp [hk]
      have HF := Lib.hid hfin
      clear hfin hch hk
      go_enter Try.func9, Try.ntmps9
      go_upto_region 1 with fail
      rw [HW.out]
      go_wp2_with fail
      go_ret
      exact ⟨by first | rfl | (rw [HF.out]; rfl), HB.out⟩
  · have e1 : ((ch1 : Int) != (ch2 : Int)) = true := by simp; omega
    have hfin : R = false := by rw [HR.out]; simp [hch]
    have HF := Lib.hid hfin
    clear hfin hch
    go_enter Try.func9, Try.ntmps9
    go_upto_region 1 with fail
    rw [HW.out]
    go_wp2_with fail
    go_ret
    exact ⟨by first | rfl | (rw [HF.out]; rfl), HB.out⟩

end Go.Proofs.Ytocankfabgjjmaa
