/-
  Texts, together: WqE, WqF.
  Conditions: none but sizes.
-/
import Derived.Test.YtpmafabphlejeaaGreatWqCZ
import Derived.Test.YtpmafabphlejeaaGreatWkSZ
/-
  The contract of the document's Do.
  Conditions: at most 110 puts, at most 400 values in each.
-/
namespace Go.Proofs.YtpmafabphlejeaaGreat
open Go.RowKit
set_option linter.unusedVariables false
set_option linter.unusedSimpArgs false
set_option maxRecDepth 100000

set_option maxHeartbeats 4000000 in
theorem qdo_bad (x : WorkC) (n : Nat) (w : World) (h : ShowsW w x) (hv : wB x.ps x.rs = false) :
    Calls Tryz.prog 19 #[workVal x, .int .u64 n] w (EntSaid zE 130 w) := by
  have HC := Lib.hid (fun w' (hb : Below w.heap.size w w') => qcheckw_any x w' (h.kept hb (Nat.le_refl _)))
  rw [errW_no hv] at HC
  clear h hv
  obtain ⟨A1, c1, cs, A2, c2, rs⟩ := x
  unfold workVal at *
  simp only [] at *
  have hA := AtD.new w (.slice A1 cs.length c1) (.slice A2 rs.length c2)
  obtain ⟨W1, hW1⟩ : ∃ W1, W1 = (w.alloc (Obj.cells #[.slice A1 cs.length c1, .slice A2 rs.length c2] 25)).alloc zEnt := ⟨_, rfl⟩
  rw [← hW1] at hA
  have k0 := hA.a.c0
  have k1 := hA.a.c1
  have HA := Lib.hid hA
  have HW1 := Lib.hid hW1.symm
  clear hA hW1
  go_enter Tryz.func19, Tryz.ntmps19
  go_upto_region 1 with fail
  rw [HW1.out]
  go_wp2_with fail
  refine (HC.out _ HA.out.bel).mono ?_
  rintro e w2 ⟨rfl, hb2⟩
  have hA2 := HA.out.step hb2
  obtain ⟨⟨⟨z0, z1, z2, z3⟩, ⟨z4, z5, z6, z7⟩⟩, ⟨⟨f0, f1, f2, f3⟩, ⟨f4, f5, f6, f7⟩⟩⟩ := ent_zero hA2.z
  have hX := hA2.fin (.int .u8 0) (.string ⟨#[]⟩) (.int .u64 0) (.int .u32 0) (.string ⟨#[]⟩) (.string ⟨#[]⟩) (.slice none 0 0) (.slice none 0 0)
  unfold set8 at hX
  have HX := Lib.hid hX
  clear hb2 hA2 hX k0 k1
  go_wp2_with fail
  exact bodyPost_ret (results_row_tmp rfl _ _ (w.heap.size + 1) 57 _ (0, 0) _ rfl HX.out.1 Tryz.underlying57 rfl (by kernel_rfl)) rfl (zEC_said rfl HX.out.2)

/-- Is the number of put j one. -/
def okN (n j : Nat) : Bool := decide (n ≠ 0 ∧ n ≤ 1099511627776 ∧ n + j ≤ 1099511627776)
theorem hasNum_no {k n j : Nat} (hj : j < k) (h : okN n j = false) : hasNum k n = false := by
  unfold okN at h
  rw [decide_eq_false_iff_not] at h
  unfold hasNum
  rw [decide_eq_false_iff_not]
  omega
theorem hasNum_yes {k n : Nat} (h : ∀ j, j < k → okN n j = true) : hasNum k n = true := by
  unfold hasNum
  rw [decide_eq_true_eq]
  by_cases h0 : k = 0
  · exact .inl h0
  · right
    have := h (k - 1) (by omega)
    unfold okN at this
    rw [decide_eq_true_eq] at this
    omega
/-- The document's work under way: its box, the answer's, the copy's. -/
structure AtQD (w0 : World) (p : Nat) (v1 v2 : Value) (w : World) : Prop where
  z : w.heap[w0.heap.size + 1]? = some zEnt
  k : BoxK w p v1 v2
  bel : Below w0.heap.size w0 w

set_option maxHeartbeats 8000000 in
theorem qdo_ok (x : WorkC) (n : Nat) (w : World) (h : ShowsW w x) (hl : x.cs.length ≤ 110) (hrl : x.rs.length ≤ 110) (hf : FewS x.cs) (hv : wB x.ps x.rs = true) (hn : n < 18446744073709551616) :
    Calls Tryz.prog 19 #[workVal x, .int .u64 n] w (EntSaid (doneE x.ps x.rs n) (errD x.ps x.rs n) w) := by
  have HC := Lib.hid (fun w' (hb : Below w.heap.size w w') => qcheckw_any x w' (h.kept hb (Nat.le_refl _)))
  rw [errW_ok hv] at HC
  have HCO := Lib.hid (fun w' (hb : Below w.heap.size w w') => qcopyw_any x w' (h.kept hb (Nat.le_refl _)) hl hrl hf)
  unfold QCopSaid at HCO
  have HRF := Lib.hid h.takes.refs
  obtain ⟨PS, hPS⟩ : ∃ PS, PS = x.ps := ⟨_, rfl⟩
  obtain ⟨RS, hRS⟩ : ∃ RS, RS = x.rs := ⟨_, rfl⟩
  have HFE2 := Lib.hid (show FewE PS by rw [hPS]; exact fewS_iff.1 hf)
  have hl2 : PS.length ≤ 110 := by rw [hPS]; unfold WorkC.ps; rw [esOf_len]; exact hl
  rw [← hRS] at HRF hrl
  rw [← hPS, ← hRS] at HCO ⊢
  have HEND := Lib.hid (show (∀ j, j < PS.length → okN n j = false → errD PS RS n = 6 ∧ doneE PS RS n = zE) ∧ ((∀ j, j < PS.length → okN n j = true) → errD PS RS n = 0 ∧ doneE PS RS n = doE PS RS n) from by
    have hv' : wB PS RS = true := by rw [hPS, hRS]; exact hv
    refine ⟨fun j hj ho => ?_, fun ho => ?_⟩
    · have e : errD PS RS n = 6 := by unfold errD; rw [if_neg (by rw [hv']; decide), if_pos (hasNum_no hj ho)]
      exact ⟨e, by unfold doneE; rw [e]; rfl⟩
    · have e : errD PS RS n = 0 := by unfold errD; rw [if_neg (by rw [hv']; decide), if_neg (by rw [hasNum_yes ho]; decide)]
      exact ⟨e, by unfold doneE; rw [e]; rfl⟩)
  obtain ⟨ER, hER⟩ : ∃ ER, ER = errD PS RS n := ⟨_, rfl⟩
  obtain ⟨DE, hDE⟩ : ∃ DE, DE = doneE PS RS n := ⟨_, rfl⟩
  rw [← hER, ← hDE] at HEND ⊢
  clear h hf hv hl hER hDE
  obtain ⟨A1, c1, cs, A2, c2, rs⟩ := x
  unfold workVal at *
  simp only [] at HC HCO
  have hA := AtD.new w (.slice A1 cs.length c1) (.slice A2 rs.length c2)
  obtain ⟨W1, hW1⟩ : ∃ W1, W1 = (w.alloc (Obj.cells #[.slice A1 cs.length c1, .slice A2 rs.length c2] 25)).alloc zEnt := ⟨_, rfl⟩
  rw [← hW1] at hA
  have hs1 : W1.heap.size = w.heap.size + 1 + 1 := by rw [hW1]; simp
  have k0 := hA.a.c0
  have k1 := hA.a.c1
  have HA := Lib.hid hA
  have HW1 := Lib.hid hW1.symm
  have HS1 := Lib.hid hs1
  clear hA hW1 hPS hRS hs1
  go_enter Tryz.func19, Tryz.ntmps19
  go_upto_region 1 with fail
  rw [HW1.out]
  go_wp2_with fail
  refine (HC.out _ HA.out.bel).mono ?_
  rintro e w2 ⟨rfl, hb2⟩
  have hA2 := HA.out.step hb2
  clear k0 k1
  have k0 := hA2.a.c0
  have k1 := hA2.a.c1
  have HA2 := Lib.hid hA2
  clear hb2 hA2
  go_wp2_with fail
  refine (HCO.out _ HA2.out.bel).mono ?_
  rintro e w3 ⟨⟨F1, f1, gs, F2, f2, hs⟩, rfl, hp3, hr3, ho3, hb3⟩
  have hA3 := HA2.out.step hb3
  simp only [] at hr3
  subst hr3
  have hgl : gs.length = PS.length := by have := congrArg List.length hp3; unfold WorkC.ps at this; rw [esOf_len] at this; exact this
  have HP := Lib.hid (show PS = esOf gs from hp3.symm)
  have HCP := Lib.hid (And.intro ho3.p1 (And.intro ho3.p2 (And.intro ho3.t1 ho3.t2)))
  have hz2 := (Array.getElem?_eq_some_iff.1 HA2.out.z).1
  have hO3 := ho3.own
  have hb3s := hb3.size
  obtain ⟨W4, hW4⟩ : ∃ W4, W4 = w3.alloc (Obj.cells #[.slice F1 gs.length f1, .slice F2 hs.length f2] 25) := ⟨_, rfl⟩
  have hb4 : Below w3.heap.size w3 W4 := by rw [hW4]; exact below_boxV w3 _
  have hQ4 : AtQD w w3.heap.size (.slice F1 gs.length f1) (.slice F2 hs.length f2) W4 := ⟨(hA3.step hb4).z, by rw [hW4]; exact BoxK.new w3 _ _, (hA3.step hb4).bel⟩
  have hO4 : OwnW W4 (w.heap.size + 1 + 1) (ycut ⟨F1, f1, gs, F2, f2, hs⟩) := (hO3.step hb4).mono (by omega)
  have HG := Lib.hid (show ∀ (j : Nat) (g : Nat), j < gs.length → F1 = some ⟨g, 0, none⟩ → g < w3.heap.size from fun j g hj e => by
    obtain ⟨g', e', _, hlt, _⟩ := hO3.at_ j hj
    have e' : F1 = some ⟨g', 0, none⟩ := e'
    rw [e] at e'
    injection e' with e'
    injection e' with e' _
    omega)
  have HQ4 := Lib.hid hQ4
  have HO4 := Lib.hid hO4
  have HZ3 := Lib.hid (show w.heap.size + 1 + 1 ≤ w3.heap.size by omega)
  have HGL := Lib.hid hgl.symm
  have hg110 : gs.length ≤ 110 := by omega
  have HW4 := Lib.hid hW4.symm
  have k0' := hQ4.k.c0
  have k1' := hQ4.k.c1
  clear k0 k1 hA3 hp3 ho3 hz2 hO3 hb3 hb3s hb4 hQ4 hO4 hW4 hgl hl2
  go_upto_region 4 with fail
  rw [HW4.out]
  clear k0' k1'
  go_wp2_with fail
  go_loopw [7] (fun iv wr => ∃ (j : Nat) (es : List PutC), j ≤ gs.length ∧ iv = .int .i64 j ∧ Hid (es.length = gs.length) ∧ Hid (esOf es = numE n 0 (PS.take j) ++ PS.drop j) ∧ Hid (∀ q, q < j → okN n q = true) ∧ Hid (OwnW wr (w.heap.size + 1 + 1) (ycut ⟨F1, f1, es, F2, f2, hs⟩)) ∧ Hid (AtQD w w3.heap.size (.slice F1 gs.length f1) (.slice F2 hs.length f2) wr)) (fun i _ => gs.length - (intOf i).toNat)
  case atStart => exact ⟨0, gs, by omega, rfl, Lib.hid rfl, Lib.hid (by rw [HP.out]; simp [numE]), Lib.hid (fun q h => absurd h (by omega)), HO4, HQ4⟩
  case round =>
    rename World => wr
    obtain ⟨j, es, hj, rfl, hel, hes, hok, ho, ha⟩ := hrel
    have k0 := ha.out.k.c0
    have k1 := ha.out.k.c1
    obtain ⟨⟨⟨z0, z1, z2, z3⟩, ⟨z4, z5, z6, z7⟩⟩, ⟨⟨q0, q1, q2, q3⟩, ⟨q4, q5, q6, q7⟩⟩⟩ := ent_zero ha.out.z
    by_cases hlt : j < gs.length
    · have hj1 : (j : Int) < (gs.length : Int) := by omega
      have hj0 : (0 : Int) ≤ (j : Int) := by omega
      have b3 : IntKind.i64.wrap ((j : Int) + 1) = (j : Int) + 1 := i64_id _ (by omega) (by omega)
      cases hk : okN n j with
      | false =>
        have HN := Lib.hid (HEND.out.1 j (by rw [HGL.out]; exact hlt) hk)
        have hX := (show (set8 wr (w.heap.size + 1) (.int .u8 0) (.string ⟨#[]⟩) (.int .u64 0) (.int .u32 0) (.string ⟨#[]⟩) (.string ⟨#[]⟩) (.slice none 0 0) (.slice none 0 0)).heap[w.heap.size + 1]? = some (.cells #[.int .u8 0, .string ⟨#[]⟩, .int .u64 0, .int .u32 0, .string ⟨#[]⟩, .string ⟨#[]⟩, .slice none 0 0, .slice none 0 0] 57 (0, 0)) ∧ Below w.heap.size w (set8 wr (w.heap.size + 1) (.int .u8 0) (.string ⟨#[]⟩) (.int .u64 0) (.int .u32 0) (.string ⟨#[]⟩) (.string ⟨#[]⟩) (.slice none 0 0) (.slice none 0 0)) from
          ⟨set8_row _ _ _ _ _ _ _ _ ha.out.z, set8_below ha.out.bel (by omega) _ _ _ _ _ _ _ _⟩)
        unfold set8 at hX
        have HX := Lib.hid hX
        unfold okN at hk
        rw [decide_eq_false_iff_not] at hk
        by_cases h0 : n = 0
        case pos =>
          have t1 : ((n : Int) == 0) = true := by simp; omega
          clear hX hk h0
          go_wp2_with fail
          exact bodyPost_ret (results_row_tmp rfl _ _ (w.heap.size + 1) 57 _ (0, 0) _ rfl HX.out.1 Tryz.underlying57 rfl (by kernel_rfl)) rfl (by rw [HN.out.1, HN.out.2]; exact zEC_said rfl HX.out.2)
        case neg =>
          have t1 : ((n : Int) == 0) = false := by simp; omega
          by_cases h1 : n ≤ 1099511627776
          case neg =>
            have t2 : decide ((1099511627776 : Int) < (n : Int)) = true := by simp; omega
            clear hX hk h0 h1
            go_wp2_with fail
            exact bodyPost_ret (results_row_tmp rfl _ _ (w.heap.size + 1) 57 _ (0, 0) _ rfl HX.out.1 Tryz.underlying57 rfl (by kernel_rfl)) rfl (by rw [HN.out.1, HN.out.2]; exact zEC_said rfl HX.out.2)
          case pos =>
            have t2 : decide ((1099511627776 : Int) < (n : Int)) = false := by simp; omega
            have b4 : IntKind.u64.wrap (j : Int) = (j : Int) := by rw [IntKind.wrap_u64]; omega
            have b5 : IntKind.u64.wrap ((n : Int) + (j : Int)) = ((n + j : Nat) : Int) := by rw [IntKind.wrap_u64]; omega
            have t3 : decide ((1099511627776 : Int) < ((n + j : Nat) : Int)) = true := by rw [decide_eq_true_eq]; omega
            generalize n + j = NJ at *
            clear hX hk h0 h1
            go_wp2_with fail
            exact bodyPost_ret (results_row_tmp rfl _ _ (w.heap.size + 1) 57 _ (0, 0) _ rfl HX.out.1 Tryz.underlying57 rfl (by kernel_rfl)) rfl (by rw [HN.out.1, HN.out.2]; exact zEC_said rfl HX.out.2)
      | true =>
        have HOK : Hid (∀ q, q < j + 1 → okN n q = true) := Lib.hid (fun q hq => by
          by_cases hqj : q < j
          · exact hok.out q hqj
          · obtain rfl : q = j := by omega
            exact hk)
        unfold okN at hk
        rw [decide_eq_true_eq] at hk
        obtain ⟨hk0, hk1, hk2⟩ := hk
        have hjl : j < es.length := by rw [hel.out]; exact hlt
        obtain ⟨g, hA1, hgb, hgl2, hcell, hfr, hset⟩ := ho.out.at_ j hjl
        have hg3 := HG.out j g hlt hA1
        simp only [ycut] at hA1 hcell hset
        subst hA1
        have t1 : ((n : Int) == 0) = false := by simp; omega
        have t2 : decide ((1099511627776 : Int) < (n : Int)) = false := by simp; omega
        have b4 : IntKind.u64.wrap (j : Int) = (j : Int) := by rw [IntKind.wrap_u64]; omega
        have b5 : IntKind.u64.wrap ((n : Int) + (j : Int)) = ((n + j : Nat) : Int) := by rw [IntKind.wrap_u64]; omega
        have t3 : decide ((1099511627776 : Int) < ((n + j : Nat) : Int)) = false := by rw [decide_eq_false_iff_not]; omega
        have hset2 := hset (n + j) (by omega)
        have hes2 : esOf (es.set j (es[j].num (n + j))) = numE n 0 (PS.take (j + 1)) ++ PS.drop (j + 1) := by
          have hjp : j < PS.length := by rw [HGL.out]; exact hlt
          rw [esOf_set es j (n + j) hjl, numE_upto n PS j hjp, hes.out]
          congr 1
          have : es[j].e = PS[j] := by
            rw [← esOf_get es j hjl]
            have hq : (numE n 0 (PS.take j) ++ PS.drop j)[j]'(by simp [numE_len]; omega) = PS[j] := by
              rw [List.getElem_append_right (by rw [numE_len, List.length_take]; omega), List.getElem_drop]
              congr 1
              rw [numE_len, List.length_take]
              omega
            rw [← hq]
            congr 1
          rw [this]
        have hzz := HZ3.out
        have HAN : Hid (AtQD w w3.heap.size (.slice (some ⟨g, 0, none⟩) gs.length f1) (.slice F2 hs.length f2) (wr.setCell ⟨g, j * 12 + 1, none⟩ (.int .u64 ((n + j : Nat) : Int)))) := Lib.hid
          ⟨(Below.heap_setCell _ _ _ _ (by show w.heap.size + 1 ≠ g; omega)).trans ha.out.z, (Below.heap_setCell _ _ _ _ (by show w3.heap.size ≠ g; omega)).trans ha.out.k, below_set ha.out.bel (by omega) _⟩
        have HS2 : Hid (OwnW (wr.setCell ⟨g, j * 12 + 1, none⟩ (.int .u64 ((n + j : Nat) : Int))) (w.heap.size + 1 + 1) (ycut ⟨some ⟨g, 0, none⟩, f1, es.set j (es[j].num (n + j)), F2, f2, hs⟩)) := Lib.hid (by
          have := hset2
          simp only [ycut, List.length_set]
          exact this)
        have HES := Lib.hid hes2
        have HEL := Lib.hid (show (es.set j (es[j].num (n + j))).length = gs.length by rw [List.length_set, hel.out])
        generalize hNJ : n + j = NJ at *
        clear hset hset2 hes2 hgb hgl2 hNJ hk0 hk1 hk2 hg3 hzz z0 z1 z2 z3 z4 z5 z6 z7 q0 q1 q2 q3 q4 q5 q6 q7
        go_wp2_with fail
        go_roundw
        case rel => exact ⟨j + 1, _, by omega, by go_num, HEL, HES, HOK, HS2, HAN⟩
        case measure => simp [intOf]; omega
    · have hj1 : ¬ (j : Int) < (gs.length : Int) := by omega
      have hes2 : esOf es = numE n 0 PS := by
        have := hes.out
        rw [List.take_of_length_le (by rw [HGL.out]; omega), List.drop_eq_nil_of_le (by rw [HGL.out]; omega), List.append_nil] at this
        exact this
      have HN := Lib.hid (HEND.out.2 (fun q hq => hok.out q (by have := HGL.out; omega)))
      have hX := (show (set8 wr (w.heap.size + 1) (.int .u8 3) (.string ⟨#[]⟩) (.int .u64 0) (.int .u32 0) (.string ⟨#[]⟩) (.string ⟨#[]⟩) (.slice F1 gs.length f1) (.slice F2 hs.length f2)).heap[w.heap.size + 1]? = some (.cells #[.int .u8 3, .string ⟨#[]⟩, .int .u64 0, .int .u32 0, .string ⟨#[]⟩, .string ⟨#[]⟩, .slice F1 gs.length f1, .slice F2 hs.length f2] 57 (0, 0)) ∧ Below w.heap.size w (set8 wr (w.heap.size + 1) (.int .u8 3) (.string ⟨#[]⟩) (.int .u64 0) (.int .u32 0) (.string ⟨#[]⟩) (.string ⟨#[]⟩) (.slice F1 gs.length f1) (.slice F2 hs.length f2)) from
          ⟨set8_row _ _ _ _ _ _ _ _ ha.out.z, set8_below ha.out.bel (by omega) _ _ _ _ _ _ _ _⟩)
      have hO : OwnQ (set8 wr (w.heap.size + 1) (.int .u8 3) (.string ⟨#[]⟩) (.int .u64 0) (.int .u32 0) (.string ⟨#[]⟩) (.string ⟨#[]⟩) (.slice F1 gs.length f1) (.slice F2 hs.length f2)) (w.heap.size + 1 + 1) ⟨F1, f1, es, F2, f2, hs⟩ :=
        ⟨ho.out.keep (by rw [set8_eq]; exact (setN_below (B := 0) (Nat.zero_le _) _ 0 wr wr (Below.refl 0 wr)).size) (fun k hk _ => by rw [set8_eq]; exact setN_other (by omega) _ 0 _), by show es.length ≤ f1; rw [hel.out]; exact HCP.out.1, HCP.out.2.1, HCP.out.2.2.1, HCP.out.2.2.2⟩
      have hsh := (hO.shows (by show es.length ≤ _; rw [hel.out]; omega) HRF.out (by show hs.length ≤ _; omega)).sub (low_out _ _)
      have hfew : FewS es := by rw [fewS_iff, hes2]; exact fewE_num HFE2.out 0
      unfold set8 at hX hsh
      have HX := Lib.hid (And.intro hX (And.intro hsh (And.intro hfew hes2)))
      clear hX hO hsh hfew hes2 ho
      go_wp2_with fail
      refine bodyPost_ret (results_row_tmp rfl _ _ (w.heap.size + 1) 57 _ (0, 0) _ rfl HX.out.1.1 Tryz.underlying57 rfl (by kernel_rfl)) rfl ?_
      rw [HN.out.1, HN.out.2]
      exact ⟨⟨3, ⟨#[]⟩, 0, 0, ⟨#[]⟩, ⟨#[]⟩, F1, f1, es, F2, f2, hs⟩, by unfold entV; simp only [hel.out]; rfl, by unfold EntC.e doE; simp only [HX.out.2.2.2], ⟨(show (3 : Nat) < 256 by decide), (show (0 : Nat) ≤ _ by decide), (show (0 : Nat) < _ by decide), (show (0 : Nat) < _ by decide), (show (0 : Nat) ≤ _ by decide), (show (0 : Nat) ≤ _ by decide), HX.out.2.1.puts, HX.out.2.1.takes⟩, HX.out.2.2.1, HX.out.1.2⟩

theorem qdo_any (x : WorkC) (n : Nat) (w : World) (h : ShowsW w x) (hl : x.cs.length ≤ 110) (hrl : x.rs.length ≤ 110) (hf : FewS x.cs) (hn : n < 18446744073709551616) :
    Calls Tryz.prog 19 #[workVal x, .int .u64 n] w (EntSaid (doneE x.ps x.rs n) (errD x.ps x.rs n) w) := by
  cases hv : wB x.ps x.rs with
  | false =>
    have e : errD x.ps x.rs n = 130 := by unfold errD; rw [if_pos hv]
    have e2 : doneE x.ps x.rs n = zE := by unfold doneE; rw [e]; rfl
    rw [e2, e]
    exact qdo_bad x n w h hv
  | true => exact qdo_ok x n w h hl hrl hf hv hn

end Go.Proofs.YtpmafabphlejeaaGreat
/-
  The contract of the document's Prep.
  Conditions: at most 110 puts, at most 400 values in each.
-/
namespace Go.Proofs.YtpmafabphlejeaaGreat
open Go.RowKit
set_option linter.unusedVariables false
set_option linter.unusedSimpArgs false
set_option maxRecDepth 100000

set_option maxHeartbeats 4000000 in
theorem qprep_bad (x : WorkC) (f : Nat) (g h : ByteArray) (w : World) (hx : ShowsW w x) (hv : wB x.ps x.rs = false) :
    Calls Tryz.prog 21 #[workVal x, .agg #[.int .u32 f, .string g, .string h]] w (EntSaid zE 130 w) := by
  have HC := Lib.hid (fun w' (hb : Below w.heap.size w w') => qcheckw_any x w' (hx.kept hb (Nat.le_refl _)))
  rw [errW_no hv] at HC
  clear hx hv
  obtain ⟨A1, c1, cs, A2, c2, rs⟩ := x
  unfold workVal at *
  simp only [] at *
  have hA := AtX.new w (.slice A1 cs.length c1) (.slice A2 rs.length c2) f g h
  obtain ⟨W1, hW1⟩ : ∃ W1, W1 = ((w.alloc (Obj.cells #[.slice A1 cs.length c1, .slice A2 rs.length c2] 25)).alloc (Obj.cells #[.int .u32 f, .string g, .string h] 55)).alloc zEnt := ⟨_, rfl⟩
  rw [← hW1] at hA
  obtain ⟨⟨k0, k1⟩, k2, k3, k4⟩ := hA.cs
  have HA := Lib.hid hA
  have HW1 := Lib.hid hW1.symm
  clear hA hW1
  go_enter Tryz.func21, Tryz.ntmps21
  go_upto_region 1 with fail
  rw [HW1.out]
  go_wp2_with fail
  refine (HC.out _ HA.out.bel).mono ?_
  rintro e w2 ⟨rfl, hb2⟩
  have hA2 := HA.out.step hb2
  obtain ⟨⟨⟨z0, z1, z2, z3⟩, ⟨z4, z5, z6, z7⟩⟩, ⟨⟨f0, f1, f2, f3⟩, ⟨f4, f5, f6, f7⟩⟩⟩ := ent_zero hA2.z
  have hX := hA2.fin (.int .u8 0) (.string ⟨#[]⟩) (.int .u64 0) (.int .u32 0) (.string ⟨#[]⟩) (.string ⟨#[]⟩) (.slice none 0 0) (.slice none 0 0)
  unfold set8 at hX
  have HX := Lib.hid hX
  clear hb2 hA2 hX k0 k1 k2 k3 k4
  go_wp2_with fail
  exact bodyPost_ret (results_row_tmp rfl _ _ (w.heap.size + 1 + 1) 57 _ (0, 0) _ rfl HX.out.1 Tryz.underlying57 rfl (by kernel_rfl)) rfl (zEC_said rfl HX.out.2)

set_option maxHeartbeats 4000000 in
theorem qprep_x (x : WorkC) (f : Nat) (g h : ByteArray) (w : World) (hx : ShowsW w x) (hv : wB x.ps x.rs = true) (hm : ¬ mayX g h) (hg : g.size ≤ 140737488351232) (hh : h.size ≤ 140737488351232) :
    Calls Tryz.prog 21 #[workVal x, .agg #[.int .u32 f, .string g, .string h]] w (EntSaid zE 40 w) := by
  have HC := Lib.hid (fun w' (hb : Below w.heap.size w w') => qcheckw_any x w' (hx.kept hb (Nat.le_refl _)))
  have HXC := Lib.hid (fun w' => qxcheck_any f g h w' (by omega) (by omega))
  have he : errX g h = 40 := by unfold errX mayXB; rw [if_neg (by rw [decide_eq_false hm]; decide)]
  rw [he] at HXC
  clear he
  rw [errW_ok hv] at HC
  clear hx hv hm
  obtain ⟨A1, c1, cs, A2, c2, rs⟩ := x
  unfold workVal at *
  simp only [] at *
  have hA := AtX.new w (.slice A1 cs.length c1) (.slice A2 rs.length c2) f g h
  obtain ⟨W1, hW1⟩ : ∃ W1, W1 = ((w.alloc (Obj.cells #[.slice A1 cs.length c1, .slice A2 rs.length c2] 25)).alloc (Obj.cells #[.int .u32 f, .string g, .string h] 55)).alloc zEnt := ⟨_, rfl⟩
  rw [← hW1] at hA
  obtain ⟨⟨k0, k1⟩, k2, k3, k4⟩ := hA.cs
  have HA := Lib.hid hA
  have HW1 := Lib.hid hW1.symm
  clear hA hW1
  go_enter Tryz.func21, Tryz.ntmps21
  go_upto_region 1 with fail
  rw [HW1.out]
  go_wp2_with fail
  refine (HC.out _ HA.out.bel).mono ?_
  rintro e w2 ⟨rfl, hb2⟩
  have hA2 := HA.out.step hb2
  clear k0 k1 k2 k3 k4
  obtain ⟨⟨k0, k1⟩, k2, k3, k4⟩ := hA2.cs
  have HA2 := Lib.hid hA2
  clear hb2 hA2
  go_wp2_with fail
  refine (HXC.out _).mono ?_
  rintro e w3 ⟨rfl, hb3⟩
  have hA3 := HA2.out.step hb3
  obtain ⟨⟨⟨z0, z1, z2, z3⟩, ⟨z4, z5, z6, z7⟩⟩, ⟨⟨f0, f1, f2, f3⟩, ⟨f4, f5, f6, f7⟩⟩⟩ := ent_zero hA3.z
  have hX := hA3.fin (.int .u8 0) (.string ⟨#[]⟩) (.int .u64 0) (.int .u32 0) (.string ⟨#[]⟩) (.string ⟨#[]⟩) (.slice none 0 0) (.slice none 0 0)
  unfold set8 at hX
  have HX := Lib.hid hX
  clear hb3 hA3 hX k0 k1 k2 k3 k4
  go_wp2_with fail
  exact bodyPost_ret (results_row_tmp rfl _ _ (w.heap.size + 1 + 1) 57 _ (0, 0) _ rfl HX.out.1 Tryz.underlying57 rfl (by kernel_rfl)) rfl (zEC_said rfl HX.out.2)

set_option maxHeartbeats 8000000 in
theorem qprep_ok (x : WorkC) (f : Nat) (g h : ByteArray) (w : World) (hx : ShowsW w x) (hl : x.cs.length ≤ 110) (hrl : x.rs.length ≤ 110) (hf : FewS x.cs) (hv : wB x.ps x.rs = true) (hm : mayX g h) (hfl : f < 4294967296) (hg : g.size ≤ 140737488351232) (hh : h.size ≤ 140737488351232) :
    Calls Tryz.prog 21 #[workVal x, .agg #[.int .u32 f, .string g, .string h]] w (EntSaid (prepE f g h x.ps x.rs) 0 w) := by
  have HC := Lib.hid (fun w' (hb : Below w.heap.size w w') => qcheckw_any x w' (hx.kept hb (Nat.le_refl _)))
  have HXC := Lib.hid (fun w' => qxcheck_any f g h w' (by omega) (by omega))
  have he : errX g h = 0 := by unfold errX mayXB; rw [if_pos (by rw [decide_eq_true hm])]
  rw [he] at HXC
  rw [errW_ok hv] at HC
  have HCO := Lib.hid (fun w' (hb : Below w.heap.size w w') => qcopyw_any x w' (hx.kept hb (Nat.le_refl _)) hl hrl hf)
  unfold QCopSaid at HCO
  have HRF := Lib.hid hx.takes.refs
  have HFE := Lib.hid (fewS_iff.1 hf)
  have HFL := Lib.hid (And.intro hfl (And.intro hg hh))
  have HLN := Lib.hid (And.intro hl hrl)
  clear hx hf hv hm hfl hg hh hl hrl he
  obtain ⟨A1, c1, cs, A2, c2, rs⟩ := x
  unfold workVal WorkC.ps at *
  simp only [] at HC HCO HRF HFE HLN ⊢
  have hA := AtX.new w (.slice A1 cs.length c1) (.slice A2 rs.length c2) f g h
  obtain ⟨W1, hW1⟩ : ∃ W1, W1 = ((w.alloc (Obj.cells #[.slice A1 cs.length c1, .slice A2 rs.length c2] 25)).alloc (Obj.cells #[.int .u32 f, .string g, .string h] 55)).alloc zEnt := ⟨_, rfl⟩
  rw [← hW1] at hA
  obtain ⟨⟨k0, k1⟩, k2, k3, k4⟩ := hA.cs
  have HA := Lib.hid hA
  have HW1 := Lib.hid hW1.symm
  clear hA hW1
  go_enter Tryz.func21, Tryz.ntmps21
  go_upto_region 1 with fail
  rw [HW1.out]
  go_wp2_with fail
  refine (HC.out _ HA.out.bel).mono ?_
  rintro e w2 ⟨rfl, hb2⟩
  have hA2 := HA.out.step hb2
  clear k0 k1 k2 k3 k4
  obtain ⟨⟨k0, k1⟩, k2, k3, k4⟩ := hA2.cs
  have HA2 := Lib.hid hA2
  clear hb2 hA2
  go_wp2_with fail
  refine (HXC.out _).mono ?_
  rintro e w3 ⟨rfl, hb3⟩
  have hA3 := HA2.out.step hb3
  clear k0 k1 k2 k3 k4
  obtain ⟨⟨k0, k1⟩, k2, k3, k4⟩ := hA3.cs
  have HA3 := Lib.hid hA3
  clear hb3 hA3
  go_wp2_with fail
  refine (HCO.out _ HA3.out.bel).mono ?_
  rintro e w4 ⟨⟨F1, f1, gs, F2, f2, hs⟩, rfl, hp4, hr4, ho4, hb4⟩
  have hA4 := HA3.out.step hb4
  simp only [] at hr4
  subst hr4
  have hgl : gs.length ≤ 110 := by have := congrArg List.length hp4; unfold WorkC.ps at this; simp only [esOf_len] at this; have := HLN.out.1; omega
  obtain ⟨W5, hW5⟩ : ∃ W5, W5 = w4.alloc (Obj.cells #[.slice F1 gs.length f1, .slice F2 hs.length f2] 25) := ⟨_, rfl⟩
  have hb5 : Below w4.heap.size w4 W5 := by rw [hW5]; exact below_boxV w4 _
  have hK5 : BoxK W5 w4.heap.size (.slice F1 gs.length f1) (.slice F2 hs.length f2) := by rw [hW5]; exact BoxK.new w4 _ _
  have hA5 := hA4.step hb5
  have hz3 : w.heap.size + 1 + 1 < w3.heap.size := (Array.getElem?_eq_some_iff.1 HA3.out.z).1
  have hO5 := ho4.step hb5
  clear k0 k1 k2 k3 k4
  obtain ⟨⟨k0, k1⟩, k2, k3, k4⟩ := hA5.cs
  have m0 := hK5.c0
  have m1 := hK5.c1
  obtain ⟨⟨⟨z0, z1, z2, z3⟩, ⟨z4, z5, z6, z7⟩⟩, ⟨⟨q0, q1, q2, q3⟩, ⟨q4, q5, q6, q7⟩⟩⟩ := ent_zero hA5.z
  have hX := hA5.fin (.int .u8 4) (.string ⟨#[]⟩) (.int .u64 0) (.int .u32 f) (.string g) (.string h) (.slice F1 gs.length f1) (.slice F2 hs.length f2)
  have hO : OwnQ (set8 W5 (w.heap.size + 1 + 1) (.int .u8 4) (.string ⟨#[]⟩) (.int .u64 0) (.int .u32 f) (.string g) (.string h) (.slice F1 gs.length f1) (.slice F2 hs.length f2)) w3.heap.size ⟨F1, f1, gs, F2, f2, hs⟩ :=
    hO5.keep (by rw [set8_eq]; exact (setN_below (B := 0) (Nat.zero_le _) _ 0 W5 W5 (Below.refl 0 W5)).size) (fun k hk _ => by rw [set8_eq]; exact setN_other (by omega) _ 0 _)
  have hsh := (hO.shows (by show gs.length ≤ _; omega) HRF.out (by show hs.length ≤ _; have := HLN.out.2; omega)).sub (low_out _ _)
  have hfew : FewS gs := by rw [fewS_iff]; have : esOf gs = esOf cs := hp4; rw [this]; exact HFE.out
  unfold set8 at hX hsh
  have HX := Lib.hid (And.intro hX (And.intro hsh (And.intro hfew (show esOf gs = esOf cs from hp4))))
  have HW5 := Lib.hid hW5.symm
  clear hX hO hsh hfew hp4 ho4 hb4 hA4 hb5 hK5 hA5 hz3 hO5 hW5 hgl
  go_upto_region 6 with fail
  rw [HW5.out]
  go_wp2_with fail
  exact bodyPost_ret (results_row_tmp rfl _ _ (w.heap.size + 1 + 1) 57 _ (0, 0) _ rfl HX.out.1.1 Tryz.underlying57 rfl (by kernel_rfl)) rfl
    ⟨⟨4, ⟨#[]⟩, 0, f, g, h, F1, f1, gs, F2, f2, hs⟩, rfl, by unfold EntC.e prepE; simp only [HX.out.2.2.2], ⟨(show (4 : Nat) < 256 by decide), (show (0 : Nat) ≤ _ by decide), (show (0 : Nat) < _ by decide), HFL.out.1, HFL.out.2.1, HFL.out.2.2, HX.out.2.1.puts, HX.out.2.1.takes⟩, HX.out.2.2.1, HX.out.1.2⟩

theorem qprep_any (x : WorkC) (f : Nat) (g h : ByteArray) (w : World) (hx : ShowsW w x) (hl : x.cs.length ≤ 110) (hrl : x.rs.length ≤ 110) (hf : FewS x.cs) (hfl : f < 4294967296) (hg : g.size ≤ 140737488351232) (hh : h.size ≤ 140737488351232) :
    Calls Tryz.prog 21 #[workVal x, .agg #[.int .u32 f, .string g, .string h]] w (EntSaid (prepdE x.ps x.rs f g h) (errP2 x.ps x.rs g h) w) := by
  cases hv : wB x.ps x.rs with
  | false =>
    have e : errP2 x.ps x.rs g h = 130 := by unfold errP2; rw [if_pos hv]
    have e2 : prepdE x.ps x.rs f g h = zE := by unfold prepdE; rw [e]; rfl
    rw [e2, e]
    exact qprep_bad x f g h w hx hv
  | true =>
    by_cases hm : mayX g h
    · have e : errP2 x.ps x.rs g h = 0 := by unfold errP2; rw [if_neg (by rw [hv]; decide), if_neg (fun h => h hm)]
      have e2 : prepdE x.ps x.rs f g h = prepE f g h x.ps x.rs := by unfold prepdE; rw [e]; rfl
      rw [e2, e]
      exact qprep_ok x f g h w hx hl hrl hf hv hm hfl hg hh
    · have e : errP2 x.ps x.rs g h = 40 := by unfold errP2; rw [if_neg (by rw [hv]; decide), if_pos hm]
      have e2 : prepdE x.ps x.rs f g h = zE := by unfold prepdE; rw [e]; rfl
      rw [e2, e]
      exact qprep_x x f g h w hx hv hm hg hh

end Go.Proofs.YtpmafabphlejeaaGreat
