/-
  The document's Turn.
  Conditions: none but sizes.
-/
import Derived.Test.YtknfiiacalfelaaCdB
import Derived.Test.YtknfiiacalfelaaClS
namespace Go.Proofs.Ytknfiiacalfelaa
open Go.RowKit Go.Shelf
set_option linter.unusedVariables false
set_option linter.unusedSimpArgs false
set_option maxRecDepth 100000

theorem updA_at {l : List (Tg × Nat)} (hn : (l.map (·.1)).Nodup) {i : Nat} (hi : i < l.length) (f : Nat → Nat) : updA l[i].1 f l = l.set i (l[i].1, f l[i].2) := by
  obtain ⟨a, ha⟩ : ∃ a, a = l.take i := ⟨_, rfl⟩
  obtain ⟨b, hb⟩ : ∃ b, b = l.drop (i + 1) := ⟨_, rfl⟩
  obtain ⟨x, hx⟩ : ∃ x, x = l[i] := ⟨_, rfl⟩
  have e : l = a ++ x :: b := by rw [ha, hb, hx, ← List.drop_eq_getElem_cons hi, List.take_append_drop]
  have hl : a.length = i := by rw [ha, List.length_take]; omega
  rw [← hx]
  clear ha hb hx
  subst e
  subst hl
  rw [updA_mid hn]
  simp
theorem dt_from {q : CP} (h : q.ok) (hn : q.l.length ≤ 1000000) : ∃ a : Nat, ∃ z : Int, a ≤ q.l.length ∧ placeT (idxA q.last q.l) = z ∧ z = (a : Int) - 1 ∧ IntKind.i64.wrap (z + 1) = (a : Int) ∧ wrap64 (z + 1) = (a : Int) ∧ rotA q.last [] q.l = q.l.drop a ++ q.l.take a := by
  obtain ⟨a, h1, h2, h3⟩ := rot_from h
  have hz : placeT (idxA q.last q.l) = (a : Int) - 1 := by
    unfold placeT
    cases hi : idxA q.last q.l with
    | none => rw [hi] at h2; simp only [] at h2 ⊢; omega
    | some i => rw [hi] at h2; simp only [] at h2 ⊢; omega
  have e : (a : Int) - 1 + 1 = (a : Int) := by omega
  exact ⟨a, _, h1, hz, rfl, by rw [e]; exact i64_id _ (by omega) (by omega), by rw [e]; exact w64_id _ (by omega) (by omega), h3⟩
theorem drop_range_self (a : Nat) : (List.range a).drop a = [] := List.drop_eq_nil_of_le (by simp)
/-- A turn, by the place of the one that is served. -/
theorem dt_some {q : CP} {may : List Tg} {a k i : Nat} (ho : q.ok) (hr : rotA q.last [] q.l = q.l.drop a ++ q.l.take a) (hi : i < q.l.length) (hk : k < (q.l.drop a ++ q.l.take a).length) (e : (q.l.drop a ++ q.l.take a)[k] = q.l[i]) (hm : mayC may q.l[i] = true) (hb : ∀ j (hj : j < (q.l.drop a ++ q.l.take a).length), j < k → mayC may (q.l.drop a ++ q.l.take a)[j] = false) :
    q.turn may = ((q.l[i].1, true), ⟨q.l.set i (q.l[i].1, usedC q.l[i].2), q.l[i].1⟩) := by
  unfold CP.turn
  rw [hr, rot_find hk (by rw [e]; exact hm) hb, e]
  show ((q.l[i].1, true), (⟨updA q.l[i].1 usedC q.l, q.l[i].1⟩ : CP)) = _
  rw [updA_at ho.nod hi]
theorem dt_none {q : CP} {may : List Tg} {a : Nat} (hr : rotA q.last [] q.l = q.l.drop a ++ q.l.take a) (hb : ∀ j (hj : j < (q.l.drop a ++ q.l.take a).length), mayC may (q.l.drop a ++ q.l.take a)[j] = false) : q.turn may = (([], false), q) := by
  unfold CP.turn
  rw [hr, rot_findN hb]
section
variable {w w' : World} {B qb : Nat} {q : CP}
set_option maxHeartbeats 8000000 in
theorem dturn_any (h : DW w B qb q) (ho : q.ok) (hn : q.l.length ≤ 1000000) (may : List Tg) (Am : Option Addr) (cm dm : Nat) (hmay : ShowsG strC w dm (.slice Am may.length cm) may) (hml : may.length ≤ 1000000) :
    Calls Try.prog 16 #[.pointer (some ⟨qb, 0, none⟩), .slice Am may.length cm] w fun e w' => e = .returned (.tuple #[.string (str8 (q.turn may).1.1), .bool (q.turn may).1.2]) ∧ LeftD w B qb (q.turn may).2 w' := by
  have HF := Lib.hid (dfind_any h hn q.last)
  obtain ⟨a, z, ha, hz, hza, z1, z2, hrot⟩ := dt_from ho hn
  rw [hz] at HF
  obtain ⟨A, c, h1⟩ := h
  have c0 := h1.c0
  have c1 := h1.c1
  have HQ := Lib.hid (fun w' (hb : Below w.heap.size w w') => h1.below hb)
  have HLB := Lib.hid (fun w' (hb : Below w.heap.size w w') => LeftD.of_below ⟨A, c, h1⟩ hb)
  have HM := Lib.hid (fun w' (hb : Below w.heap.size w w') t => din_any may Am cm dm t (hmay.below' hb (Nat.le_refl _)) hml)
  have HRO := Lib.hid hrot
  have HO := Lib.hid ho
  obtain ⟨n, hnn⟩ : ∃ n, n = q.l.length := ⟨_, rfl⟩
  have HN := Lib.hid hnn
  have HZA := Lib.hid hza
  rw [← hnn] at ha hn c0
  have hBw := h1.hB
  have hqw := h1.lt
  clear h1 hmay hrot ho hz hza hnn
  go_enter Try.func16, Try.ntmps16
  go_upto_region 4 with (go_at_call 21; refine HF.out.mono ?_; rintro e w1 ⟨rfl, rfl⟩)
  clear z1 z2 c0 c1
  go_wp2_with fail
  go_loopw [7, 8] (fun v i wr => ∃ j : Nat, a ≤ j ∧ j ≤ n ∧ i = .int .i64 j ∧ Hid (OwnG (natC .i64) 3 wr w.heap.size v ((List.range j).drop a)) ∧ Hid (Below w.heap.size w wr)) (fun _ i _ => n - (intOf i).toNat)
  case atStart => exact ⟨a, Nat.le_refl _, ha, rfl, Lib.hid (by rw [drop_range_self]; exact OwnG.nil_ _ _ _ _), Lib.hid (Below.refl _ _)⟩
  case round =>
    rename World => wr
    obtain ⟨j, haj, hj, rfl, hrow, hb⟩ := hrel
    have hq := HQ.out wr hb.out
    have c0 := hq.c0
    rw [← HN.out] at c0
    by_cases hlt : j < n
    · have b1 : (j : Int) < (n : Int) := by omega
      have b3 : IntKind.i64.wrap ((j : Int) + 1) = (j : Int) + 1 := i64_id _ (by omega) (by omega)
      have HS := Lib.hid (ord1_snoc haj)
      have HLE : Hid (((List.range j).drop a).length ≤ 1000000) := Lib.hid (by simp; omega)
      have hr5 := hrow.out.alloc_ (.cells #[.int .i64 j] 3)
      have hb5 : Below w.heap.size w (wr.alloc (.cells #[.int .i64 j] 3)) := hb.out.alloc hb.out.size _
      have hm5 : ShowsG (natC .i64) (wr.alloc (.cells #[.int .i64 j] 3)) wr.heap.size (.slice (some ⟨wr.heap.size, 0, none⟩) 1 1) [j] := ShowsG.lit (C := natC .i64) [j] (by simp [Code.all, natC]) (by simp [maxLen])
      have HM1 : Hid (n - (j + 1) < n - j ∧ a ≤ j + 1 ∧ j + 1 ≤ n) := Lib.hid (by omega)
      generalize (List.range j).drop a = M at *
      clear hq hb
      go_wp2_with (at_builtin; refine wpList_appendG (natC .i64) _ rfl (.tmp 29) (.tmp 31) 49 rfl w.heap.size 3 _ 8 Try.underlying49 infoInt rfl _ M rfl hr5 wr.heap.size _ [j] rfl hm5 (by have := HLE.out; simp; omega) (by have := HLE.out; simp; omega) hb5.size ?_; intro v6 w6 ho6 hg6; have hb6 := hb5.grown hg6 hb5.size (fun k e => (hr5.block k e).1))
      go_roundw
      case rel => exact ⟨j + 1, HM1.out.2.1, HM1.out.2.2, by go_num, Lib.hid (HS.out ▸ ho6), Lib.hid hb6⟩
      case measure => have := HM1.out; simp [intOf]; omega
    · obtain rfl : j = n := by omega
      have HB := hb
      have HROW := hrow
      clear hq hb hrow hlt
      go_wp2_with fail
      clear c0
      go_loopw [7, 9] (fun v i wq => ∃ r : Nat, r ≤ a ∧ i = .int .i64 r ∧ Hid (OwnG (natC .i64) 3 wq w.heap.size v ((List.range j).drop a ++ List.range r)) ∧ Hid (Below w.heap.size w wq)) (fun _ i _ => a - (intOf i).toNat)
      case atStart => exact ⟨0, Nat.zero_le _, rfl, Lib.hid (by rw [List.range_zero, List.append_nil]; exact HROW.out), HB⟩
      case round =>
        rename World => wq
        obtain ⟨r, hr, rfl, hrow, hb⟩ := hrel
        by_cases hlt : r < a
        · have b1 : (r : Int) ≤ z := by rw [HZA.out]; omega
          have b3 : IntKind.i64.wrap ((r : Int) + 1) = (r : Int) + 1 := i64_id _ (by omega) (by omega)
          have HS := Lib.hid (ord2_snoc (a := a) (n := j) (j := r))
          have HLE : Hid (((List.range j).drop a ++ List.range r).length ≤ 2000000) := Lib.hid (by simp; omega)
          have hr5 := hrow.out.alloc_ (.cells #[.int .i64 r] 3)
          have hb5 : Below w.heap.size w (wq.alloc (.cells #[.int .i64 r] 3)) := hb.out.alloc hb.out.size _
          have hm5 : ShowsG (natC .i64) (wq.alloc (.cells #[.int .i64 r] 3)) wq.heap.size (.slice (some ⟨wq.heap.size, 0, none⟩) 1 1) [r] := ShowsG.lit (C := natC .i64) [r] (by simp [Code.all, natC]) (by simp [maxLen])
          have HM1 : Hid (a - (r + 1) < a - r ∧ r + 1 ≤ a) := Lib.hid (by omega)
          generalize (List.range j).drop a ++ List.range r = M at *
          clear hb
          go_wp2_with (at_builtin; refine wpList_appendG (natC .i64) _ rfl (.tmp 38) (.tmp 40) 49 rfl w.heap.size 3 _ 8 Try.underlying49 infoInt rfl _ M rfl hr5 wq.heap.size _ [r] rfl hm5 (by have := HLE.out; simp; omega) (by have := HLE.out; simp; omega) hb5.size ?_; intro v6 w6 ho6 hg6; have hb6 := hb5.grown hg6 hb5.size (fun k e => (hr5.block k e).1))
          go_roundw
          case rel => exact ⟨r + 1, HM1.out.2, by go_num, Lib.hid (HS.out ▸ ho6), Lib.hid hb6⟩
          case measure => have := HM1.out; simp [intOf]; omega
        · obtain rfl : r = a := by omega
          have b1 : ¬ (r : Int) ≤ z := by rw [HZA.out]; omega
          have hol : ((List.range j).drop r ++ List.range r).length = j := ordA_len haj
          obtain ⟨Ao, co, rfl, _, _⟩ := hrow.out.form
          rw [hol] at hrow ⊢
          have HB2 := hb
          have HR2 := hrow
          have HRL : Hid ((q.l.drop r ++ q.l.take r).length = j) := Lib.hid (by have := HN.out; simp; omega)
          clear hlt hr HROW HB hb hrow
          go_wp2_with fail
          go_loopw [10] (fun iv wz => ∃ k : Nat, k ≤ j ∧ iv = .int .i64 k ∧ wq = wz ∧ Hid (∀ k' (h : k' < (q.l.drop r ++ q.l.take r).length), k' < k → mayC may (q.l.drop r ++ q.l.take r)[k'] = false)) (fun iv _ => j - (intOf iv).toNat)
          case atStart => exact ⟨0, Nat.zero_le _, rfl, rfl, Lib.hid fun k' _ h => absurd h (by omega)⟩
          case round =>
            obtain ⟨k, hk, rfl, rfl, hno⟩ := hrel
            have hq := HQ.out _ HB2.out
            have c0 := hq.c0
            have f1 := hq.fr 1
            rw [← HN.out] at c0
            by_cases hkn : k < j
            · obtain ⟨i, g1, hi, g2, g3, g4⟩ := ordA_get (a := r) (n := j) haj hkn q.l HN.out.symm
              obtain ⟨go, rfl, _, hc⟩ := HR2.out.cellI (by omega)
              have kc := hc k g1
              rw [g3] at kc
              obtain ⟨b, rfl, hbq, k0, k1, kf⟩ := hq.at_ hi
              have HI : Hid (i < j) := Lib.hid (by have := HN.out; omega)
              have b2 : (k : Int) < (j : Int) := by omega
              have b3 : (i : Int) < (j : Int) := by have := HI.out; omega
              have b4 : IntKind.i64.wrap ((k : Int) + 1) = (k : Int) + 1 := i64_id _ (by omega) (by omega)
              have HM1 : Hid (j - (k + 1) < j - k ∧ k + 1 ≤ j) := Lib.hid (by omega)
              have HSTEP : Hid (mayC may q.l[i] = false → ∀ k' (h : k' < (q.l.drop r ++ q.l.take r).length), k' < k + 1 → mayC may (q.l.drop r ++ q.l.take r)[k'] = false) := Lib.hid fun hf k' h hk' => by
                by_cases c : k' < k
                · exact hno.out k' h c
                · obtain rfl : k' = k := by omega
                  rw [g4]; exact hf
              have HSOME : Hid (mayC may q.l[i] = true → q.turn may = ((q.l[i].1, true), ⟨q.l.set i (q.l[i].1, usedC q.l[i].2), q.l[i].1⟩)) := Lib.hid fun hm => dt_some HO.out HRO.out hi g2 g4 hm hno.out
              have hmc : mayC may q.l[i] = (decide (q.l[i].1 ∈ may) && decide (q.l[i].2 ≠ 0)) := rfl
              have hyb := HO.out.cred _ (List.getElem_mem hi)
              obtain ⟨t, ht⟩ : ∃ t, t = q.l[i].1 := ⟨_, rfl⟩
              obtain ⟨y, hy⟩ : ∃ y, y = q.l[i].2 := ⟨_, rfl⟩
              have HT := Lib.hid ht
              have HY := Lib.hid hy
              have HKF := Lib.hid kf
              have HQ0 := Lib.hid hq
              have hmi := HM.out _ HB2.out t
              rw [← ht] at k0 hmc HSOME
              rw [← hy] at k1 hmc hyb HSOME
              clear hno g1 g2 g3 g4 hc ht hy kf hq hk hkn
              by_cases hy0 : y = 0
              · have hz : ((y : Int) == 0) = true := by simp [hy0]
                have HS := Lib.hid (HSTEP.out (by rw [hmc]; simp [hy0]))
                clear hmc HSTEP HSOME hmi k0 hyb hy0
                go_wp2_with fail
                go_roundw
                case rel => exact ⟨k + 1, HM1.out.2, by go_num, by first | rfl | trivial, HS⟩
                case measure => have := HM1.out; simp [intOf]; clear b4; omega
              · have hz : ((y : Int) == 0) = false := by rw [beq_eq_false_iff_ne]; omega
                by_cases hmem : t ∈ may
                case neg =>
                  have HS := Lib.hid (HSTEP.out (by rw [hmc]; simp [hmem]))
                  rw [decide_eq_false hmem] at hmi
                  have HMI := Lib.hid hmi
                  clear hmc HSTEP HSOME hmi hyb hy0 hmem
                  go_wp2_with (go_at_call 33; refine HMI.out.mono ?_; rintro e w1 ⟨rfl, rfl⟩)
                  go_roundw
                  case rel => exact ⟨k + 1, HM1.out.2, by go_num, by first | rfl | trivial, HS⟩
                  case measure => have := HM1.out; simp [intOf]; clear b4; omega
                case pos =>
                  have HEQ := Lib.hid (HSOME.out (by rw [hmc]; simp [hmem, hy0]))
                  rw [decide_eq_true hmem] at hmi
                  have HMI := Lib.hid hmi
                  by_cases hye : y = 4294967295
                  · have hz2 : ((y : Int) != 4294967295) = false := by simp [hye]
                    have hset : q.l.set i (t, usedC y) = q.l := by
                      have : usedC y = y := if_pos hye
                      rw [this, HT.out, HY.out]
                      exact List.set_getElem_self _
                    have hfin := (HLB.out _ HB2.out).trans (LeftD.lastS HQ0.out t)
                    have k2 := HQ0.out.c1
                    rw [hset] at HEQ
                    have HFIN := Lib.hid hfin
                    clear hmc HSTEP HSOME hmi hyb hy0 hmem hye hset hfin
                    go_wp2_with (go_at_call 33; refine HMI.out.mono ?_; rintro e w1 ⟨rfl, rfl⟩)
                    go_ret2
                    rw [HEQ.out]
                    exact ⟨rfl, HFIN.out⟩
                  · obtain ⟨y1, hy1⟩ : ∃ y1, y = y1 + 1 := ⟨y - 1, by omega⟩
                    have hz2 : ((y : Int) != 4294967295) = true := by rw [bne_iff_ne]; omega
                    have hu : IntKind.u64.wrap ((y : Int) - 1) = (y1 : Int) := by rw [IntKind.wrap_u64]; omega
                    have husd : usedC y = y1 := by have : usedC y = y - 1 := if_neg hye; omega
                    have hd1 := HQ0.out.cred hi rfl t HT.out.symm y1
                    have f2 := HKF.out (i * 2 + 1)
                    have f1' := hd1.fr 1
                    have c0' := hd1.c0
                    have hl2 : (q.l.set i (t, y1)).length = j := by rw [List.length_set]; exact HN.out.symm
                    rw [show ({ q with l := q.l.set i (t, y1) } : CP).l.length = j from hl2] at c0'
                    obtain ⟨b9, hb9, k9, k0', k8, k7⟩ := hd1.at_ (j := i) (by rw [show ({ q with l := q.l.set i (t, y1) } : CP).l.length = j from hl2]; exact HI.out)
                    cases hb9
                    have k0'' : (wq.setCell ⟨b, i * 2 + 1, none⟩ (.int .u64 (y1 : Nat))).cell? ⟨b, i * 2, none⟩ = some (.string (str8 t)) := by rw [k0']; simp
                    have k2 := HQ0.out.c1
                    have k2' := hd1.c1
                    have hfin := ((HLB.out _ HB2.out).trans (LeftD.cred HQ0.out hi rfl t HT.out.symm y1)).trans (LeftD.lastS hd1 t)
                    rw [husd] at HEQ
                    have HFIN := Lib.hid hfin
                    clear hmc HSTEP HSOME hmi hyb hy0 hmem hye hfin husd hl2 hd1 k0' k7 k8 k9 hy1
                    go_wp2_with (go_at_call 33; refine HMI.out.mono ?_; rintro e w1 ⟨rfl, rfl⟩)
                    go_ret2
                    rw [HEQ.out]
                    exact ⟨rfl, HFIN.out⟩
            · obtain rfl : k = j := by omega
              have HEQ := Lib.hid (dt_none HRO.out fun k' h => hno.out k' h (by rw [← HRL.out]; exact h))
              clear hq c0 f1
              go_wp2_with fail
              go_ret2
              rw [HEQ.out]
              exact ⟨rfl, HLB.out _ HB2.out⟩
end

end Go.Proofs.Ytknfiiacalfelaa
