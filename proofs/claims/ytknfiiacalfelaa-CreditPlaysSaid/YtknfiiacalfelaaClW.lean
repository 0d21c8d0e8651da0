/-
  For any calls (the first 80): a round answers the document's, call by call.
  Conditions: none.
-/
import Derived.Test.YtknfiiacalfelaaCdX
namespace Go.Proofs.Ytknfiiacalfelaa
open Go.ChangeShapes Go.WideShapes Go.ChangeAt Go.RowKit Go.Shelf
set_option linter.unusedVariables false
set_option linter.unusedSimpArgs false
set_option maxRecDepth 100000

set_option maxHeartbeats 16000000 in
theorem cplays_walk (A : Option Addr) (c d : Nat) (l : List CallC) (w : World) (h : ShowsG callC w d (.slice A l.length c) l) (hll : l.length ≤ 4000000000000) (hok : ∀ x ∈ l, x.ok w) :
    Calls Try.prog 3 #[.slice A l.length c] w fun e w' => e = .returned (.bool true) ∧ Below w.heap.size w w' := by
  have H0 := Lib.hid (fun w' => UnoC.new w')
  have HH := Lib.hid (fun w' (hb : Below w.heap.size w w') => (chead_any w').mono fun e w'' (he : e = .returned (.bool true) ∧ Below w'.heap.size w' w'') => (⟨he.1, hb.trans (he.2.mono hb.size)⟩ : e = .returned (.bool true) ∧ Below w.heap.size w w''))
  have HAT := Lib.hid (fun (hp : 0 < l.length) => h.at_ hp)
  have HOK := Lib.hid hok
  have HLL := Lib.hid hll
  clear h hok
  go_enter Try.func3, Try.ntmps3
  go_upto_region 2 with (go_at_call 7; refine (H0.out _).mono ?_; rintro e w1 ⟨pb, rfl, h1, hb1⟩)
  have HA0 := Lib.hid (atc_new h1)
  obtain ⟨W2, hW2⟩ : ∃ W2, W2 = (w1.alloc (.cells #[.slice none 0 0, .string ⟨#[]⟩] 28)) := ⟨_, rfl⟩
  rw [← hW2] at HA0
  go_upto_region 3 with fail
  rw [← hW2]
  clear hW2
  generalize w1.heap.size = qb at *
  clear h1 hb1
  go_wp2_with fail
  go_loopw [5] (fun ii wr => ∃ (i : Nat) (q : CP), ii = .int .i64 i ∧ i ≤ l.length ∧ i ≤ 80 ∧ q.l.length ≤ i ∧ Hid (AtC w pb qb q q wr wr)) (fun ii _ => l.length - (intOf ii).toNat)
  case atStart => exact ⟨0, _, rfl, Nat.zero_le _, by omega, Nat.le_refl _, HA0⟩
  case round =>
    obtain ⟨i, q, rfl, hi, h80, hql, HD⟩ := hrel
    rename World => wj
    have hbel := HD.out.uno.bel
    by_cases hlt : i < l.length
    case neg =>
      obtain rfl : i = l.length := by omega
      go_wp2_with (go_at_call 8; refine (HH.out _ HD.out.uno.bel).mono ?_; rintro e w9 ⟨rfl, hb9⟩)
      go_ret
      exact ⟨rfl, hb9⟩
    have hli : (i : Int) < (l.length : Int) := by omega
    by_cases hlt8 : i < 80
    case neg =>
      have hl8 : ¬ (i : Int) < 80 := by omega
      go_wp2_with (go_at_call 8; refine (HH.out _ HD.out.uno.bel).mono ?_; rintro e w9 ⟨rfl, hb9⟩)
      go_ret
      exact ⟨rfl, hb9⟩
    have hl8 : (i : Int) < 80 := by omega
    obtain ⟨o, rfl, hd0, hcl⟩ := HAT.out (by omega)
    have hcs := callc_cell hcl hlt
    have hokx := HOK.out _ (List.getElem_mem hlt)
    obtain ⟨x, hx⟩ : ∃ x, x = l[i] := ⟨_, rfl⟩
    rw [← hx] at hcs hokx
    have c0 := (World.cell?_of_block (w := w) (hbel.block d hd0)).trans hcs.1
    have c1 := (World.cell?_of_block (w := w) (hbel.block d hd0)).trans hcs.2.1
    have c2 := (World.cell?_of_block (w := w) (hbel.block d hd0)).trans hcs.2.2.1
    have c3 := (World.cell?_of_block (w := w) (hbel.block d hd0)).trans hcs.2.2.2
    have HXO := Lib.hid hokx
    clear hcl hcs hx hokx
    go_upto_region 7 with fail
    obtain ⟨xb, hxb⟩ : ∃ xb, xb = wj.heap.size := ⟨_, rfl⟩
    obtain ⟨W3, hW3⟩ : ∃ W3, W3 = wj.alloc (Obj.cells #[.int .u8 x.what, .string (str8 x.tag), .int .u32 x.n, .slice x.Ak x.may.length x.ck] 32) := ⟨_, rfl⟩
    have HA3 : Hid (AtC w pb qb q q W3 W3) := Lib.hid (by rw [hW3]; exact (HD.out.step ((Below.refl _ _).alloc (Nat.le_refl _) _)).from)
    have hbx : W3.heap[xb]? = some (.cells #[.int .u8 x.what, .string (str8 x.tag), .int .u32 x.n, .slice x.Ak x.may.length x.ck] 32 (0, 0)) := by rw [hW3, hxb]; exact heap_alloc_new wj _
    have HC : Hid (∀ p q w', AtC w pb qb p q W3 w' → w'.cell? ⟨xb, 0, none⟩ = some (.int .u8 x.what) ∧ w'.cell? ⟨xb, 1, none⟩ = some (.string (str8 x.tag)) ∧ w'.cell? ⟨xb, 2, none⟩ = some (.int .u32 x.n) ∧ w'.cell? ⟨xb, 3, none⟩ = some (.slice x.Ak x.may.length x.ck)) := Lib.hid fun p q w' ha => by
      have hb := (ha.kept.cells hbx (not_mineB (by decide) (by decide) (by decide) (by decide) (by decide))).trans hbx
      exact ⟨cell_of_row w' xb 0 _ _ (0, 0) hb, cell_of_row w' xb 1 _ _ (0, 0) hb, cell_of_row w' xb 2 _ _ (0, 0) hb, cell_of_row w' xb 3 _ _ (0, 0) hb⟩
    rw [← hW3, ← hxb]
    clear hW3 hxb hbx c0 c1 c2 c3 hbel
    obtain ⟨e0, e1, e2, e3⟩ := HC.out _ _ _ HA3.out
    obtain ⟨tn, htn⟩ : ∃ tn, tn = x.tag.length := ⟨_, rfl⟩
    have hts : (str8 x.tag).size = tn := by rw [htn]; rfl
    by_cases ht100 : 100 < tn
    · have b1 : (100 : Int) < (tn : Int) := by omega
      clear htn
      go_wp2_with (go_at_call 8; refine (HH.out _ HA3.out.uno.bel).mono ?_; rintro e w9 ⟨rfl, hb9⟩)
      go_ret
      exact ⟨rfl, hb9⟩
    have b1 : ¬ (100 : Int) < (tn : Int) := by omega
    by_cases hm20 : 20 < x.may.length
    · have b2 : (20 : Int) < (x.may.length : Int) := by omega
      clear htn
      go_wp2_with (go_at_call 8; refine (HH.out _ HA3.out.uno.bel).mono ?_; rintro e w9 ⟨rfl, hb9⟩)
      go_ret
      exact ⟨rfl, hb9⟩
    have b2 : ¬ (20 : Int) < (x.may.length : Int) := by omega
    have HTL : Hid (x.tag.length ≤ 140737488355328 ∧ x.may.length ≤ 1000000) := Lib.hid (by omega)
    clear htn
    obtain ⟨q1, hq1⟩ : ∃ q1, q1 = stepC x q := ⟨_, rfl⟩
    have HQ1 := Lib.hid hq1
    have HQL1 : Hid (q1.l.length ≤ i + 1) := Lib.hid (by rw [hq1]; exact Nat.le_trans (stepC_len x q) (by omega))
    have HQL : Hid (q.l.length ≤ 1000000) := Lib.hid (by omega)
    have HNN : Hid (x.n ≤ 4294967295) := Lib.hid (by have := HXO.out.n; omega)
    have HTT : Hid (∀ t ∈ x.may, t.length ≤ 140737488355328) := Lib.hid fun t ht => by have := HXO.out.tags t ht; omega
    clear hq1 hql
    go_upto_block 2 with fail
    go_cut [7, 8, 9, 10, 11] from 48 to 118 (fun s u1 u2 u3 u4 wx => s = .bool true ∧ AtC w pb qb q1 q1 W3 wx)
    case first =>
      have hA0 := HA3.out
      have hAd : AtC w pb qb q q W3 W3.drew := hA0.step (below_drew1 (Below.refl _ _))
      have hw6 : x.what % 6 = 0 ∨ x.what % 6 = 1 ∨ x.what % 6 = 2 ∨ x.what % 6 = 3 ∨ x.what % 6 = 4 ∨ x.what % 6 = 5 := by omega
      rcases hw6 with hw | hw | hw | hw | hw | hw
      · have hm : (x.what : Int) % 6 = 0 := by omega
        have hst : q1 = (q.add x.tag).2 := by rw [HQ1.out]; unfold stepC; rw [if_pos (by omega)]
        have HP := Lib.hid (fun w' (ha : AtC w pb qb q q W3 w') => ha.callP (r := .returned (.int .i64 (q.add x.tag).1)) (ha.uno.add x.tag HTL.out.1))
        have HQ := Lib.hid (fun w' (ha : AtC w pb qb (q.add x.tag).2 q W3 w') => ha.callQ (r := .returned (.int .i64 (q.add x.tag).1)) ha.uno.ok (dadd_any ha.doc ha.okq HQL.out x.tag HTL.out.1))
        subst hst
        generalize q.add x.tag = R at *
        clear hw
        go_upto_region 13 with fail
        go_region_held3 (fun w' => w'.cell? ⟨xb, 0, none⟩ = some (.int .u8 x.what) ∧ w'.cell? ⟨xb, 1, none⟩ = some (.string (str8 x.tag)) ∧ w'.cell? ⟨xb, 2, none⟩ = some (.int .u32 x.n) ∧ w'.cell? ⟨xb, 3, none⟩ = some (.slice x.Ak x.may.length x.ck)) (first | with_reducible exact HC.out _ _ _ hA2 | with_reducible exact HC.out _ _ _ hA1 | with_reducible exact HC.out _ _ _ (by assumption))
          (first
            | (go_at_call 9
               with_reducible refine (HP.out _ (by assumption)).mono ?_
               rintro e8 w8 ⟨rfl, hA1⟩)
            | (go_at_call 10
               with_reducible refine (HQ.out _ hA1).mono ?_
               rintro e9 w9 ⟨rfl, hA2⟩))
        all_goals
          go_wp2_with fail
          go_meet
          case rel => exact ⟨by first | rfl | simp, hA2⟩
      · have hm : (x.what : Int) % 6 = 1 := by omega
        have hst : q1 = (q.remove x.tag).2 := by rw [HQ1.out]; unfold stepC; rw [if_neg (by omega), if_pos (by omega)]
        have HP := Lib.hid (fun w' (ha : AtC w pb qb q q W3 w') => ha.callP (r := .returned (.int .i64 (q.remove x.tag).1)) (ha.uno.remove x.tag HTL.out.1))
        have HQ := Lib.hid (fun w' (ha : AtC w pb qb (q.remove x.tag).2 q W3 w') => ha.callQ (r := .returned (.int .i64 (q.remove x.tag).1)) ha.uno.ok (dremove_any ha.doc ha.okq HQL.out x.tag))
        subst hst
        generalize q.remove x.tag = R at *
        clear hw
        go_upto_region 15 with fail
        go_region_held3 (fun w' => w'.cell? ⟨xb, 0, none⟩ = some (.int .u8 x.what) ∧ w'.cell? ⟨xb, 1, none⟩ = some (.string (str8 x.tag)) ∧ w'.cell? ⟨xb, 2, none⟩ = some (.int .u32 x.n) ∧ w'.cell? ⟨xb, 3, none⟩ = some (.slice x.Ak x.may.length x.ck)) (first | with_reducible exact HC.out _ _ _ hA2 | with_reducible exact HC.out _ _ _ hA1 | with_reducible exact HC.out _ _ _ (by assumption))
          (first
            | (go_at_call 11
               with_reducible refine (HP.out _ (by assumption)).mono ?_
               rintro e8 w8 ⟨rfl, hA1⟩)
            | (go_at_call 12
               with_reducible refine (HQ.out _ hA1).mono ?_
               rintro e9 w9 ⟨rfl, hA2⟩))
        all_goals
          go_wp2_with fail
          go_meet
          case rel => exact ⟨by first | rfl | simp, hA2⟩
      · have hm : (x.what : Int) % 6 = 2 := by omega
        have hst : q1 = (q.give x.tag x.n).2 := by rw [HQ1.out]; unfold stepC; rw [if_neg (by omega), if_neg (by omega), if_neg (by omega), if_neg (by omega)]
        have HP := Lib.hid (fun w' (ha : AtC w pb qb q q W3 w') => ha.callP (r := .returned (.int .i64 (q.give x.tag x.n).1)) (ha.uno.give x.tag HTL.out.1 x.n HNN.out))
        have HQ := Lib.hid (fun w' (ha : AtC w pb qb (q.give x.tag x.n).2 q W3 w') => ha.callQ (r := .returned (.int .i64 (q.give x.tag x.n).1)) ha.uno.ok (dgive_any ha.doc ha.okq HQL.out x.tag x.n HNN.out))
        subst hst
        generalize q.give x.tag x.n = R at *
        clear hw
        go_upto_region 11 with fail
        go_region_held3 (fun w' => w'.cell? ⟨xb, 0, none⟩ = some (.int .u8 x.what) ∧ w'.cell? ⟨xb, 1, none⟩ = some (.string (str8 x.tag)) ∧ w'.cell? ⟨xb, 2, none⟩ = some (.int .u32 x.n) ∧ w'.cell? ⟨xb, 3, none⟩ = some (.slice x.Ak x.may.length x.ck)) (first | with_reducible exact HC.out _ _ _ hA2 | with_reducible exact HC.out _ _ _ hA1 | with_reducible exact HC.out _ _ _ (by assumption))
          (first
            | (go_at_call 17
               with_reducible refine (HP.out _ (by assumption)).mono ?_
               rintro e8 w8 ⟨rfl, hA1⟩)
            | (go_at_call 18
               with_reducible refine (HQ.out _ hA1).mono ?_
               rintro e9 w9 ⟨rfl, hA2⟩))
        all_goals
          go_wp2_with fail
          go_meet
          case rel => exact ⟨by first | rfl | simp, hA2⟩
      · have hm : (x.what : Int) % 6 = 3 := by omega
        have hst : q1 = (q.give x.tag x.n).2 := by rw [HQ1.out]; unfold stepC; rw [if_neg (by omega), if_neg (by omega), if_neg (by omega), if_neg (by omega)]
        have HP := Lib.hid (fun w' (ha : AtC w pb qb q q W3 w') => ha.callP (r := .returned (.int .i64 (q.give x.tag x.n).1)) (ha.uno.give x.tag HTL.out.1 x.n HNN.out))
        have HQ := Lib.hid (fun w' (ha : AtC w pb qb (q.give x.tag x.n).2 q W3 w') => ha.callQ (r := .returned (.int .i64 (q.give x.tag x.n).1)) ha.uno.ok (dgive_any ha.doc ha.okq HQL.out x.tag x.n HNN.out))
        subst hst
        generalize q.give x.tag x.n = R at *
        clear hw
        go_upto_region 11 with fail
        go_region_held3 (fun w' => w'.cell? ⟨xb, 0, none⟩ = some (.int .u8 x.what) ∧ w'.cell? ⟨xb, 1, none⟩ = some (.string (str8 x.tag)) ∧ w'.cell? ⟨xb, 2, none⟩ = some (.int .u32 x.n) ∧ w'.cell? ⟨xb, 3, none⟩ = some (.slice x.Ak x.may.length x.ck)) (first | with_reducible exact HC.out _ _ _ hA2 | with_reducible exact HC.out _ _ _ hA1 | with_reducible exact HC.out _ _ _ (by assumption))
          (first
            | (go_at_call 17
               with_reducible refine (HP.out _ (by assumption)).mono ?_
               rintro e8 w8 ⟨rfl, hA1⟩)
            | (go_at_call 18
               with_reducible refine (HQ.out _ hA1).mono ?_
               rintro e9 w9 ⟨rfl, hA2⟩))
        all_goals
          go_wp2_with fail
          go_meet
          case rel => exact ⟨by first | rfl | simp, hA2⟩
      · have hm : (x.what : Int) % 6 = 4 := by omega
        have hst : q1 = (q.stop x.tag).2 := by rw [HQ1.out]; unfold stepC; rw [if_neg (by omega), if_neg (by omega), if_pos (by omega)]
        have HP := Lib.hid (fun w' (ha : AtC w pb qb q q W3 w') => ha.callP (r := .returned (.int .i64 (q.stop x.tag).1)) (ha.uno.stop x.tag HTL.out.1))
        have HQ := Lib.hid (fun w' (ha : AtC w pb qb (q.stop x.tag).2 q W3 w') => ha.callQ (r := .returned (.int .i64 (q.stop x.tag).1)) ha.uno.ok (dstop_any ha.doc ha.okq HQL.out x.tag))
        subst hst
        generalize q.stop x.tag = R at *
        clear hw
        go_upto_region 17 with fail
        go_region_held3 (fun w' => w'.cell? ⟨xb, 0, none⟩ = some (.int .u8 x.what) ∧ w'.cell? ⟨xb, 1, none⟩ = some (.string (str8 x.tag)) ∧ w'.cell? ⟨xb, 2, none⟩ = some (.int .u32 x.n) ∧ w'.cell? ⟨xb, 3, none⟩ = some (.slice x.Ak x.may.length x.ck)) (first | with_reducible exact HC.out _ _ _ hA2 | with_reducible exact HC.out _ _ _ hA1 | with_reducible exact HC.out _ _ _ (by assumption))
          (first
            | (go_at_call 13
               with_reducible refine (HP.out _ (by assumption)).mono ?_
               rintro e8 w8 ⟨rfl, hA1⟩)
            | (go_at_call 14
               with_reducible refine (HQ.out _ hA1).mono ?_
               rintro e9 w9 ⟨rfl, hA2⟩))
        all_goals
          go_wp2_with fail
          go_meet
          case rel => exact ⟨by first | rfl | simp, hA2⟩
      · have hm : (x.what : Int) % 6 = 5 := by omega
        have hst : q1 = (q.turn x.may).2 := by rw [HQ1.out]; unfold stepC; rw [if_neg (by omega), if_neg (by omega), if_neg (by omega), if_pos (by omega)]
        have HP := Lib.hid (fun w' (ha : AtC w pb qb q q W3 w') => ha.callP (r := .returned (.tuple #[.string (str8 (q.turn x.may).1.1), .bool (q.turn x.may).1.2])) (ha.uno.turn x.Ak x.may.length x.ck x.dk x.may rfl (HXO.out.may.below' ha.uno.bel (Nat.le_refl _)) HTT.out HTL.out.2))
        have HQ := Lib.hid (fun w' (ha : AtC w pb qb (q.turn x.may).2 q W3 w') => ha.callQ (r := .returned (.tuple #[.string (str8 (q.turn x.may).1.1), .bool (q.turn x.may).1.2])) ha.uno.ok (dturn_any ha.doc ha.okq HQL.out x.may x.Ak x.ck x.dk (HXO.out.may.below' ha.uno.bel (Nat.le_refl _)) HTL.out.2))
        subst hst
        generalize q.turn x.may = R at *
        clear hw
        have hst1 : ((str8 R.1.1).toList == (str8 R.1.1).toList) = true := by simp
        have hst2 : (R.1.2 == R.1.2) = true := by simp
        go_wp2_with fail
        with_reducible refine (HP.out _ (by assumption)).mono ?_
        rintro e8 w8 ⟨rfl, hA1⟩
        obtain ⟨g0, g1, g2, g3⟩ := HC.out _ _ _ hA1
        clear e0 e1 e2 e3
        go_wp2_with fail
        with_reducible refine (HQ.out _ hA1).mono ?_
        rintro e9 w9 ⟨rfl, hA2⟩
        clear g0 g1 g2 g3
        go_wp2_with fail
        go_meet
        case rel => exact ⟨by first | rfl | simp, hA2⟩
    case rest =>
      rename World => wx
      obtain ⟨rfl, hA2⟩ := hcut
      have HAX := Lib.hid hA2
      have hq1n := HQL1.out
      have HTG := Lib.hid (hA2.uno.tags (by omega))
      clear hA2 e0 e1 e2 e3
      go_upto_region 25 with (go_at_call 19; refine HTG.out.mono ?_; rintro e w4 ⟨v4, rfl, ho4, hu4, hb4⟩)
      have hA4 := HAX.out.step hb4
      have HA4 := Lib.hid hA4
      obtain ⟨At, ct, rfl, _, _⟩ := ho4.form
      obtain ⟨n1, hn1⟩ : ∃ n1, n1 = q1.l.length := ⟨_, rfl⟩
      have hml4 : (q1.l.map (·.1)).length = n1 := by rw [List.length_map]; exact hn1.symm
      rw [hml4] at ho4 ⊢
      obtain ⟨Aq, cq, hdi⟩ := hA4.doc
      have c0 := hdi.c0
      rw [← hn1] at c0
      have hCW := hA4.uno.one
      have hokq := hA4.okq
      have HCR : Hid (∀ n k (hk : k < q1.l.length), Calls Try.prog 20 #[.pointer (some ⟨pb, 0, none⟩), .string (str8 q1.l[k].1)] (w4.drewN n) fun e w' => e = .returned (.tuple #[.int .u32 q1.l[k].2, .int .i64 0]) ∧ w4.drewN n = w') := Lib.hid fun n k hk => by
        obtain ⟨F, hF⟩ := (hA4.uno.step (below_drewN (Below.refl _ _) n)).one
        have hl : q1.l[k].1.length ≤ 140737488355328 := by have := (hokq.tags _ (List.getElem_mem hk)).2; omega
        have := credit_any hF q1.l[k].1 hl
        rw [credit_at hokq hk] at this
        exact this.mono fun e w' hx => ⟨hx.1, hx.2.symm⟩
      have HCX : Hid (∀ n, Calls Try.prog 20 #[.pointer (some ⟨pb, 0, none⟩), .string (str8 x.tag)] (w4.drewN n) fun e w' => e = .returned (.tuple #[.int .u32 (q1.credit x.tag).1, .int .i64 (q1.credit x.tag).2]) ∧ w4.drewN n = w') := Lib.hid fun n => by
        obtain ⟨F, hF⟩ := (hA4.uno.step (below_drewN (Below.refl _ _) n)).one
        exact (credit_any hF x.tag HTL.out.1).mono fun e w' hx => ⟨hx.1, hx.2.symm⟩
      have HFX : Hid (∀ n, Calls Try.prog 21 #[.pointer (some ⟨qb, 0, none⟩), .string (str8 x.tag)] (w4.drewN n) fun e w' => e = .returned (.int .i64 (placeT (idxA x.tag q1.l))) ∧ w4.drewN n = w') := Lib.hid fun n => dfind_any (hA4.doc.below (below_drewN (Below.refl _ _) n)) (by omega) x.tag
      have HCL : Hid (∀ k (hk : k < q1.l.length), ∃ gt b, At = some ⟨gt, 0, none⟩ ∧ Aq = some ⟨b, 0, none⟩ ∧ ∀ n, (w4.drewN n).cell? ⟨gt, k, none⟩ = some (.string (str8 q1.l[k].1)) ∧ (w4.drewN n).cell? ⟨b, k * 2, none⟩ = some (.string (str8 q1.l[k].1)) ∧ (w4.drewN n).cell? ⟨b, k * 2 + 1, none⟩ = some (.int .u64 (q1.l[k].2 : Nat)) ∧ (w4.drewN n).cell? ⟨qb, 0, none⟩ = some (.slice (some ⟨b, 0, none⟩) n1 cq)) := Lib.hid fun k hk => by
        obtain ⟨gt, h1, h2⟩ := ho4.cellS (by rw [hml4]; omega)
        obtain ⟨b, h3, _, h4, h5, _⟩ := hdi.at_ hk
        have h6 := h2 k (by rw [hml4]; omega)
        rw [List.getElem_map] at h6
        subst h3
        exact ⟨gt, b, h1, rfl, fun n => ⟨h6, h4, h5, c0⟩⟩
      have HCB : Hid (∀ k (hk : k < q1.l.length), q1.l[k].2 ≤ 4294967295) := Lib.hid fun k hk => hokq.cred _ (List.getElem_mem hk)
      have HXB : Hid (∀ n, (w4.drewN n).cell? ⟨xb, 1, none⟩ = some (.string (str8 x.tag))) := Lib.hid fun n => (HC.out _ _ _ (hA4.step (below_drewN (Below.refl _ _) n))).2.1
      have HFI : Hid (∀ n, AtC w pb qb q1 q1 (w4.drewN n) (w4.drewN n)) := Lib.hid fun n => (hA4.step (below_drewN (Below.refl _ _) n)).from
      have HN1 := Lib.hid hn1
      have hn80 : n1 ≤ 81 := by omega
      clear hA4 hdi ho4 hu4 hb4 hml4 hCW hokq hn1 hq1n HA4 HAX HTG
      go_wp2_with fail
      --mark L
      go_loopw [13] (fun iv wz => ∃ k n : Nat, k ≤ n1 ∧ iv = .int .i64 k ∧ wz = w4.drewN n) (fun iv _ => n1 - (intOf iv).toNat)
      case atStart => exact ⟨0, 0, Nat.zero_le _, rfl, rfl⟩
      case round =>
        obtain ⟨k, n, hk, rfl, rfl⟩ := hrel
        by_cases hkn : k < n1
        · have hkq : k < q1.l.length := by rw [← HN1.out]; exact hkn
          obtain ⟨gt, b, rfl, rfl, hcl⟩ := HCL.out k hkq
          obtain ⟨k0, k1, k2, k3⟩ := hcl n
          have HCK := Lib.hid (HCR.out n k hkq)
          have hcb := HCB.out k hkq
          have b3 : (k : Int) < (n1 : Int) := by omega
          have HM1 : Hid (n1 - (k + 1) < n1 - k ∧ k + 1 ≤ n1) := Lib.hid (by omega)
          obtain ⟨b4, b5⟩ : IntKind.i64.wrap ((k : Int) + 1) = (k : Int) + 1 ∧ wrap64 ((k : Int) + 1) = (k : Int) + 1 := ⟨i64_id _ (by omega) (by omega), w64_id _ (by omega) (by omega)⟩
          generalize q1.l[k].1 = t at *
          generalize q1.l[k].2 = y at *
          have hu : IntKind.u64.wrap (y : Int) = (y : Int) := by rw [IntKind.wrap_u64]; omega
          have ht : ((str8 t).toList != (str8 t).toList) = false := by simp
          clear hcl hkq hkn hk hcb HCL HCR c0
          go_upto_region 31 with (go_at_call 20; refine HCK.out.mono ?_; rintro e w5 ⟨rfl, rfl⟩)
          have m0 : w4.cell? ⟨gt, k, none⟩ = some (.string (str8 t)) := k0
          have m1 : w4.cell? ⟨b, k * 2, none⟩ = some (.string (str8 t)) := k1
          have m2 : w4.cell? ⟨b, k * 2 + 1, none⟩ = some (.int .u64 (y : Nat)) := k2
          have m3 : w4.cell? ⟨qb, 0, none⟩ = some (.slice (some ⟨b, 0, none⟩) n1 cq) := k3
          --mark M
          go_quiet (fail)
          --mark N
          go_wp2_with fail
          go_roundw
          case rel => exact ⟨k + 1, _, HM1.out.2, by go_num, rfl⟩
          case measure => have := HM1.out; simp [intOf]; clear b4 b5 hu; omega
        · obtain rfl : k = n1 := by omega
          have k1 := HXB.out n
          have HCX2 := Lib.hid (HCX.out n)
          have HFX2 := Lib.hid (HFX.out n)
          have HM1 : Hid (l.length - (i + 1) < l.length - i ∧ i + 1 ≤ l.length ∧ i + 1 ≤ 80) := Lib.hid (by omega)
          have b4 : IntKind.i64.wrap ((i : Int) + 1) = (i : Int) + 1 := i64_id _ (by omega) (by omega)
          have hci := credit_idx q1 x.tag
          generalize (q1.credit x.tag).1 = r1 at *
          clear HCL HCR c0 hk hkn HCX HFX
          rcases hci with ⟨h1, h2⟩ | ⟨h1, j, h2⟩
          · rw [h1] at HCX2
            rw [h2] at HFX2
            unfold placeT at HFX2
            clear h1 h2
            --mark P
            go_wp2_with (first
              | (go_at_call 20; refine HCX2.out.mono ?_; rintro e w5 ⟨rfl, rfl⟩)
              | (go_at_call 21; refine HFX2.out.mono ?_; rintro e w6 ⟨rfl, rfl⟩))
            go_roundw
            case rel => exact ⟨i + 1, q1, by go_num, HM1.out.2.1, HM1.out.2.2, HQL1.out, Lib.hid (HFI.out _)⟩
            case measure => have := HM1.out; simp [intOf]; clear b4; omega
          · rw [h1] at HCX2
            rw [h2] at HFX2
            unfold placeT at HFX2
            clear h1 h2
            have b6 : ¬ (j : Int) < 0 := by omega
            go_wp2_with (first
              | (go_at_call 20; refine HCX2.out.mono ?_; rintro e w5 ⟨rfl, rfl⟩)
              | (go_at_call 21; refine HFX2.out.mono ?_; rintro e w6 ⟨rfl, rfl⟩))
            go_roundw
            case rel => exact ⟨i + 1, q1, by go_num, HM1.out.2.1, HM1.out.2.2, HQL1.out, Lib.hid (HFI.out _)⟩
            case measure => have := HM1.out; simp [intOf]; clear b4; omega

set_option maxRecDepth 100000 in
set_option maxHeartbeats 1000000 in
theorem cplays_walk_lifted (os : Os) (started : os.Started) (H : Type) (enc : TypeId × Value → H) :
    ReturnsInHanded {} Try.checked os 3 .any (Rows.creditPlaysSpec.pre6 enc Try.prog Try.f3 Rows.creditPlaysRow.domain false) (Rows.creditPlaysSpec.post enc Try.prog Try.f3 false true false false) := by
  refine returnsInHanded_of_change_sized (C := Try.checked) own started (by kernel_rfl) Try.func3
    (ChangeSpec.witness6 (enc := enc) (C := Try.checked) false ⟨#[], #[.slice none 0 0], []⟩ 8 (by kernel_rfl) (by kernel_rfl) (by kernel_rfl) (by kernel_rfl)) ?_
  intro W base args ds gs before hval0 hW hcnd hsz0 _
  have hval : ∀ (j : Nat) t v, Try.f3.params[j]? = some t → args[j]? = some v → Value.okWide Try.prog W .any base t v := hval0
  have hsz : (DataW.weightsEach Try.prog (Try.f3.params.toList ++ Rows.creditPlaysSpec.plain.varTypes Try.prog) (ds ++ gs)).all (· ≤ reachBytes) = true := hsz0
  have hW' := hW
  obtain ⟨p, q, hA0, hV, rfl, hfz, hnd⟩ := hW
  have hA : DataW.TrodAll enc Try.prog W 0 (fun _ => true) true Try.f3.params.toList args.toList ds p := hA0
  rw [Try.params3] at hA hval hsz
  obtain ⟨v0, vs0, d0, ds0, p0, q0, hargs, rfl, rfl, h0, r0⟩ := trodAll_cons hA
  obtain ⟨rfl, rfl, rfl⟩ := trodAll_nil r0
  obtain rfl : args = #[v0] := by cases args; simp_all
  obtain ⟨rfl, rfl⟩ := trodVars_none hV
  have k0 := h0
  have lt0 : ∀ x ∈ p0, x.block < W.heap.size := by obtain ⟨m, hm⟩ := k0; exact DataW.trod_lt m _ _ _ hm
  obtain ⟨A0, c0, b0, L0, rfl, sh0, l0, ok0⟩ := open_callcs (hval 0 22 v0 rfl rfl) h0 hsz 0 rfl rfl
  clear hA0 hval0
  refine (cplays_walk A0 c0 b0 L0 W sh0 l0 ok0).mono fun e W' ⟨he, bel⟩ => ?_
  subst he
  exact ⟨_, rfl, _, _, _, [], _, [], hW', trodAll_mk1 (shut_bool Try.underlying4 _), (trodAll_cons_mk (Below.trod laidOut (by kernel_rfl) (of_decide_eq_true (by kernel_rfl)) k0 bel lt0) trodAll_mk0), rfl, bel.frame _, fun h => by cases h⟩

theorem creditPlays_holds : Rows.CreditPlaysSaid :=
  OpenClaim.holds_of_wide 3 Try.f3 rfl rfl rfl rfl rfl rfl rfl ⟨rfl, rfl, rfl, rfl, rfl⟩ rfl rfl rfl rfl rfl (by kernel_rfl) Try.func3 (by kernel_rfl)
    (of_decide_eq_true (by kernel_rfl)) (by unfold Func.isWrapper; first | (rw [if_pos (by decide +kernel)]; kernel_rfl) | (rw [if_neg (by decide +kernel)]; exact ⟨rfl, rfl⟩))
    (fun os started H enc _ => cplays_walk_lifted os started H enc)
#print axioms creditPlays_holds
end Go.Proofs.Ytknfiiacalfelaa
