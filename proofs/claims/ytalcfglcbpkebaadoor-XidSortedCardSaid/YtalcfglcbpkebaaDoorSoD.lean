/-
  The contract of slices.Compact at a row of names that is the caller's own.
  Conditions: none but sizes.
-/
import Derived.Test.YtalcfglcbpkebaaDoorSoC
import Derived.Lib.SliceRun
namespace Go.Proofs.YtalcfglcbpkebaaDoor
open Go.RowKit
set_option linter.unusedVariables false
set_option linter.unusedSimpArgs false

section
variable {α : Type} {C : Code α} {w : World} {e : TypeId} {base b n c : Nat} {l : List α}
/-- Cells behind the row's own elements may be written. -/
theorem OwnG.wipe : ∀ (zs : List Value) (o : Nat) (w : World), OwnG C e w base (.slice (some ⟨b, 0, none⟩) n c) l → l.length * C.sz ≤ o → OwnG C e (w.setCells b o zs) base (.slice (some ⟨b, 0, none⟩) n c) l
  | [], _, _, h, _ => h
  | z :: zs, o, w, h, ho => by
    refine OwnG.wipe zs (o + 1) _ ?_ (by omega)
    obtain ⟨h1, _⟩ := h.len_
    subst h1
    have := (World.ownsRow.stored h o z).1
    rw [List.set_eq_of_length_le (by rw [C.all_length]; exact ho)] at this
    exact this
theorem OwnG.front (h : OwnG C e w base (.slice (some ⟨b, 0, none⟩) n c) l) (m : Nat) (hm : m ≤ n) : OwnG C e w base (.slice (some ⟨b, 0, none⟩) m c) (l.take m) := by
  obtain ⟨h1, h2, h3⟩ := h.len_
  refine ⟨C.all_length _, ?_⟩
  have hml : (l.take m).length = m := by rw [List.length_take]; omega
  rcases h.2 with ⟨h4, _⟩ | ⟨g, cap, cur, h4, hb, hg, hnc, hcm, hcs, ht⟩
  · cases h4
  · cases h4
    refine .inr ⟨b, c, cur, by rw [hml], hb, hg, by rw [hml]; omega, hcm, hcs, ?_⟩
    rw [hml]
    have e1 : C.all l = C.all (l.take m) ++ C.all (l.drop m) := by rw [← C.all_append, List.take_append_drop]
    have e2 : cur.toList.take (m * C.sz) = (cur.toList.take (l.length * C.sz)).take (m * C.sz) := by
      rw [List.take_take, Nat.min_eq_left]
      exact Nat.mul_le_mul_right _ (by omega)
    rw [e2, ht, e1, List.take_append_of_le_length (by rw [C.all_length, hml]; exact Nat.le_refl _), List.take_of_length_le (by rw [C.all_length, hml]; exact Nat.le_refl _)]
theorem below_setCells {B : Nat} {w0 : World} (hB : B ≤ b) : ∀ (zs : List Value) (o : Nat) (w : World), Below B w0 w → Below B w0 (w.setCells b o zs)
  | [], _, _, h => h
  | z :: zs, o, w, h => below_setCells hB zs (o + 1) _ (below_set h hB z)
end

section
variable {w : World} {e : TypeId} {base b n c : Nat} {l : List XV}
theorem OwnG.put3 (h : OwnG xidC e w base (.slice (some ⟨b, 0, none⟩) n c) l) (j : Nat) (hj : j < l.length) (f : Nat) (g q : ByteArray) :
    OwnG xidC e (((w.setCell ⟨b, j * 3, none⟩ (.int .u32 f)).setCell ⟨b, j * 3 + 1, none⟩ (.string g)).setCell ⟨b, j * 3 + 2, none⟩ (.string q)) base (.slice (some ⟨b, 0, none⟩) n c) (l.set j (f, g, q)) := by
  have h1 := h.set_ j 0 hj (by decide) (f, l[j].2.1, l[j].2.2) (.int .u32 f) (by simp [xidC])
  have h2 := h1.set_ j 1 (by simpa using hj) (by decide) (f, g, l[j].2.2) (.string g) (by simp [xidC])
  have h3 := h2.set_ j 2 (by simpa using hj) (by decide) (f, g, q) (.string q) (by simp [xidC])
  simp only [List.set_set] at h3
  exact h3
theorem own_froz (h : OwnG xidC e w base (.slice (some ⟨b, 0, none⟩) n c) l) (hp : 0 < n) (j : Nat) : w.frozen? ⟨b, j, none⟩ = false := by
  obtain ⟨b', h1, _, _, h4, _⟩ := h.at_ hp
  cases h1
  exact h4 j
theorem own_some (h : OwnG xidC e w base (.slice (some ⟨b, 0, none⟩) n c) l) (j : Nat) (hj : j < n * 3) : (w.cell? ⟨b, j, none⟩).isSome = true := by
  have hn := h.len_.1
  obtain ⟨h0, h1, h2⟩ := own_cell h (k := j / 3) (by omega)
  have : j % 3 = 0 ∨ j % 3 = 1 ∨ j % 3 = 2 := by omega
  rcases this with k | k | k
  · rw [show j = j / 3 * 3 by omega, h0]; rfl
  · rw [show j = j / 3 * 3 + 1 by omega, h1]; rfl
  · rw [show j = j / 3 * 3 + 2 by omega, h2]; rfl
end

theorem take_set_snoc : ∀ (L : List XV) (m : Nat) (y : XV), m < L.length → (L.set m y).take (m + 1) = L.take m ++ [y]
  | [], m, y, h => absurd h (by simp)
  | z :: L, 0, y, _ => by simp
  | z :: L, m + 1, y, h => by
    rw [List.set_cons_succ, List.take_succ_cons, List.take_succ_cons, take_set_snoc L m y (by simpa using h)]
    rfl
theorem drop_set_past : ∀ (L : List XV) (m j : Nat) (y : XV), m < j → (L.set m y).drop j = L.drop j
  | [], m, j, y, _ => by simp
  | z :: L, m, 0, y, h => absurd h (by omega)
  | z :: L, 0, j + 1, y, _ => by simp
  | z :: L, m + 1, j + 1, y, h => by
    rw [List.set_cons_succ, List.drop_succ_cons, List.drop_succ_cons]
    exact drop_set_past L m j y (by omega)
theorem dedup_short (l : List XV) (h : l.length < 2) : dedupD l = l := by
  match l, h with
  | [], _ => rfl
  | [x], _ => rfl
theorem dedup_take (l : List XV) (k : Nat) (hk : 1 ≤ k) (h : k < l.length) : dedupD (l.take (k + 1)) = if l[k - 1]'(by omega) = l[k] then dedupD (l.take k) else dedupD (l.take k) ++ [l[k]] := by
  rw [List.take_succ_eq_append_getElem h, dedup_snoc]
  have : (l.take k).getLast? = some (l[k - 1]'(by omega)) := by
    rw [List.getLast?_eq_getElem?, List.length_take, Nat.min_eq_left (by omega), List.getElem?_take, if_pos (by omega)]
    simp
  rw [this]
  simp only [Option.some.injEq]

theorem run_clearX (w : World) (b o n : Nat) (hn : 0 < n) (hc : ∀ j, j < n * 3 → (w.cell? ⟨b, o + j, none⟩).isSome = true) (hf : ∀ j, j < n * 3 → w.frozen? ⟨b, o + j, none⟩ = false) :
    ∃ zs : List Value, ∀ ty c, (Builtin.clear_ #[51] ty #[.slice (some ⟨b, o, none⟩) n c]).run Tryd.prog w = .ok (.tuple #[]) (w.setCells b o zs) := by
  obtain ⟨i, hi, hz, hs, hb⟩ := info_parts infoXid
  obtain ⟨zs, hzs⟩ : ∃ zs, zs = (Builtin.zeroCells (Value.agg #[.int .u32 0, .string ⟨#[]⟩, .string ⟨#[]⟩]).cells n).toList := ⟨_, rfl⟩
  have hl : zs.length = n * 3 := by rw [hzs]; simp [Builtin.zeroCells]; rfl
  have h1 : ∀ v ∈ zs, v.oneCell' = true := by
    intro v hv
    rw [hzs, Builtin.zeroCells, Array.toList_map, List.mem_map] at hv
    obtain ⟨i, _, rfl⟩ := hv
    rw [show (Value.agg #[.int .u32 0, .string ⟨#[]⟩, .string ⟨#[]⟩]).cells = #[.int .u32 0, .string ⟨#[]⟩, .string ⟨#[]⟩] from rfl]
    show ((#[.int .u32 0, .string ⟨#[]⟩, .string ⟨#[]⟩] : Array Value)[i % 3]!).oneCell' = true
    have : i % 3 = 0 ∨ i % 3 = 1 ∨ i % 3 = 2 := by omega
    rcases this with h | h | h <;> rw [h] <;> rfl
  have hst := run_storeCells_cells (P := Tryd.prog) b o zs 0 w (by rw [hl]; simpa using hc) (by rw [hl]; simpa using hf) h1
  simp only [Nat.add_zero] at hst
  obtain ⟨m, rfl⟩ : ∃ m, n = m + 1 := ⟨n - 1, by omega⟩
  refine ⟨zs, fun ty c => ?_⟩
  rw [hzs] at hst ⊢
  simp [Builtin.clear_, run_underlying Tryd.underlying51, zeroValue, typeInfo, hi, hz, hst]

set_option maxRecDepth 100000 in
set_option maxHeartbeats 8000000 in
theorem compact_any (A : Option Addr) (c n base : Nat) (l : List XV) (w : World) (ho : OwnG xidC 24 w base (.slice A n c) l) (hb : n ≤ 1000) (hbase : base ≤ w.heap.size) :
    Calls Tryd.prog 50 #[.slice A n c] w fun e w' => ∃ v, e = .returned v ∧ OwnG xidC 24 w' base v (dedupD l) ∧ Below base w w' := by
  obtain ⟨hn, hc1, hc2⟩ := ho.len_
  by_cases h2 : n < 2
  · have hd := dedup_short l (by omega)
    have h2' : (n : Int) < 2 := by omega
    go_enter Tryd.func50, Tryd.ntmps50
    go_wp2_with fail
    go_ret
    exact ⟨_, rfl, by rw [hd]; exact ho, Below.refl _ _⟩
  · obtain ⟨b, rfl, hbb, hbw⟩ := own_cells ho (by omega)
    have h2' : ¬ (n : Int) < 2 := by omega
    have hdr : ∀ q, OwnG xidC 24 (w.drewN q) base (.slice (some ⟨b, 0, none⟩) n c) l := fun q => ho
    have OC := Lib.hid (fun (k : Nat) (hk : k < l.length) => own_cell ho hk)
    go_enter Tryd.func50, Tryd.ntmps50
    go_wp2_with fail
    go_loopw [3] (fun s3 wr => ∃ k q : Nat, 1 ≤ k ∧ k ≤ n ∧ s3 = .int .i64 k ∧ wr = w.drewN q ∧ dedupD (l.take k) = l.take k) (fun s3 _ => n - (intOf s3).toNat)
    case atStart => exact ⟨1, 0, by omega, by omega, rfl, rfl, dedup_short _ (by simp; omega)⟩
    case round =>
      obtain ⟨k, q, hk1, hk, rfl, rfl, hall⟩ := hrel
      by_cases hlt : k < n
      · have hkl : k < l.length := by omega
        have hdt := dedup_take l k hk1 hkl
        rw [hall] at hdt
        obtain ⟨e0, e1, e2⟩ := OC.out k hkl
        obtain ⟨e3, e4, e5⟩ := OC.out (k - 1) (by omega)
        have hkn : (k : Int) < (n : Int) := by omega
        have hk0 : (0 : Int) ≤ (k : Int) - 1 := by omega
        have hkm : (k : Int) - 1 < (n : Int) := by omega
        have hG := xidGuard
        have hE := run_eq_xid
        by_cases heq : l[k - 1] = l[k]
        · rw [if_pos heq] at hdt
          have hd : decide ((l[k].1, l[k].2.1, l[k].2.2) = (l[k - 1].1, l[k - 1].2.1, l[k - 1].2.2)) = true := by rw [heq]; simp
          have HD := Lib.hid hdt
          generalize l[k].1 = a at *
          generalize l[k].2.1 = b1 at *
          generalize l[k].2.2 = x at *
          generalize l[k - 1].1 = a' at *
          generalize l[k - 1].2.1 = b' at *
          generalize l[k - 1].2.2 = x' at *
          have hE2 := fun w => hE a a' b1 x b' x' w
          rw [hd] at hE2
          clear hE hd heq hdt hall
          go_wp2_with fail
          go_quiet (fail)
          go_wp2_with fail
          clear e0 e1 e2 e3 e4 e5 hE2
          go_loopw [3, 5] (fun s3 s5 wr => ∃ (m k2 : Nat) (L : List XV), s3 = .int .i64 m ∧ s5 = .int .i64 k2 ∧ 1 ≤ k2 ∧ k + k2 ≤ n ∧ k ≤ m ∧ m ≤ k + k2 - 1 ∧ L.length = n ∧ L.drop (k + k2 - 1) = l.drop (k + k2 - 1) ∧
            L.take m = dedupD (l.take (k + k2)) ∧ OwnG xidC 24 wr base (.slice (some ⟨b, 0, none⟩) n c) L ∧ Below base w wr) (fun _ s5 _ => n - k - (intOf s5).toNat)
          case atStart => exact ⟨k, 1, l, rfl, rfl, by omega, by omega, by omega, by omega, hn, rfl, HD.out.symm, hdr _, below_drewN (Below.refl _ _) _⟩
          case round =>
            obtain ⟨m, k2, L, rfl, rfl, g1, g2, g3, g4, hL, hdp, htk, hoL, hbL⟩ := hrel
            rename World => wi
            by_cases hlt2 : k + k2 < n
            · have hLx : L[k + k2]'(by omega) = l[k + k2]'(by omega) := by
                have := congrArg (fun z => z[1]?) hdp
                simp only [List.getElem?_drop] at this
                rw [show k + k2 - 1 + 1 = k + k2 by omega, List.getElem?_eq_getElem (by omega), List.getElem?_eq_getElem (by omega)] at this
                exact Option.some.inj this
              have hLy : L[k + k2 - 1]'(by omega) = l[k + k2 - 1]'(by omega) := by
                have := congrArg (fun z => z[0]?) hdp
                simp only [List.getElem?_drop] at this
                rw [Nat.add_zero, List.getElem?_eq_getElem (by omega), List.getElem?_eq_getElem (by omega)] at this
                exact Option.some.inj this
              have hdt := dedup_take l (k + k2) (by omega) (by omega)
              rw [← htk] at hdt
              obtain ⟨e0, e1, e2⟩ := own_cell hoL (k := k + k2) (by omega)
              obtain ⟨e3, e4, e5⟩ := own_cell hoL (k := k + k2 - 1) (by omega)
              obtain ⟨e6, e7, e8⟩ := own_cell hoL (k := m) (by omega)
              have f0 := own_froz hoL (by omega) (m * 3)
              have f1 := own_froz hoL (by omega) (m * 3 + 1)
              have f2 := own_froz hoL (by omega) (m * 3 + 2)
              rw [hLx, show (k + k2) * 3 = k * 3 + k2 * 3 by omega] at e0 e1 e2
              rw [hLy, show (k + k2 - 1) * 3 = k * 3 + (k2 - 1) * 3 by omega] at e3 e4 e5
              have hk2n : (k2 : Int) < ((n : Int) - (k : Int)) := by omega
              have hk2n' : k2 < n - k := by omega
              have hk20 : (0 : Int) ≤ (k2 : Int) - 1 := by omega
              have hk2m : (k2 : Int) - 1 < (n : Int) - (k : Int) := by omega
              have hmn : (m : Int) < (n : Int) := by omega
              by_cases heq : l[k + k2 - 1] = l[k + k2]
              · rw [if_pos heq] at hdt
                have hd : decide ((l[k + k2].1, l[k + k2].2.1, l[k + k2].2.2) = (l[k + k2 - 1].1, l[k + k2 - 1].2.1, l[k + k2 - 1].2.2)) = true := by rw [heq]; simp
                have HD2 := Lib.hid hdt
                generalize l[k + k2].1 = a at *
                generalize l[k + k2].2.1 = b1 at *
                generalize l[k + k2].2.2 = x at *
                generalize l[k + k2 - 1].1 = a' at *
                generalize l[k + k2 - 1].2.1 = b' at *
                generalize l[k + k2 - 1].2.2 = x' at *
                have hE2 := fun w => run_eq_xid a a' b1 x b' x' w
                rw [hd] at hE2
                have HDP := Lib.hid hdp
                clear hd heq hdt hLx hLy htk hdp
                go_wp2_with fail
                go_quiet (fail)
                go_wp2_with fail
                go_roundw
                case rel => exact ⟨m, k2 + 1, L, rfl, by go_num, by omega, by omega, by omega, by omega, hL, by
                  have := congrArg (List.drop 1) HDP.out
                  rw [List.drop_drop, List.drop_drop] at this
                  rw [show k + (k2 + 1) - 1 = k + k2 - 1 + 1 by omega]
                  exact this, HD2.out.symm, hoL, below_drewN hbL nq⟩
                case measure => simp [intOf]; omega
              · rw [if_neg heq] at hdt
                have hd : decide ((l[k + k2].1, l[k + k2].2.1, l[k + k2].2.2) = (l[k + k2 - 1].1, l[k + k2 - 1].2.1, l[k + k2 - 1].2.2)) = false := by
                  rw [show (l[k + k2].1, l[k + k2].2.1, l[k + k2].2.2) = l[k + k2] from rfl, show (l[k + k2 - 1].1, l[k + k2 - 1].2.1, l[k + k2 - 1].2.2) = l[k + k2 - 1] from rfl]
                  simpa using fun h => heq h.symm
                have hx3 : l[k + k2] = (l[k + k2].1, l[k + k2].2.1, l[k + k2].2.2) := rfl
                rw [hx3] at hdt
                have HD2 := Lib.hid hdt
                generalize l[k + k2].1 = a at *
                generalize l[k + k2].2.1 = b1 at *
                generalize l[k + k2].2.2 = x at *
                generalize l[k + k2 - 1].1 = a' at *
                generalize l[k + k2 - 1].2.1 = b' at *
                generalize l[k + k2 - 1].2.2 = x' at *
                have hE2 := fun w => run_eq_xid a a' b1 x b' x' w
                rw [hd] at hE2
                have HDP := Lib.hid hdp
                have HTK := Lib.hid htk
                clear hd heq hdt hLx hLy htk hdp hx3
                go_wp2_with fail
                go_quiet (fail)
                go_wp2_with fail
                go_roundw
                case rel => exact ⟨m + 1, k2 + 1, L.set m (a, b1, x), by go_num, by go_num, by omega, by omega, by omega, by omega, by simpa using hL, by
                  have := congrArg (List.drop 1) HDP.out
                  rw [List.drop_drop, List.drop_drop] at this
                  rw [show k + (k2 + 1) - 1 = k + k2 - 1 + 1 by omega, drop_set_past L m (k + k2 - 1 + 1) (a, b1, x) (by omega)]
                  exact this, by
                  rw [take_set_snoc L m (a, b1, x) (by omega)]
                  exact HD2.out.symm, OwnG.put3 (w := wi.drewN nq) hoL m (by omega) a b1 x, below_set (below_set (below_set (below_drewN hbL nq) hbb _) hbb _) hbb _⟩
                case measure => simp [intOf]; omega
            · have hend : k + k2 = n := by omega
              rw [hend, show l.take n = l from List.take_of_length_le (by omega)] at htk
              obtain ⟨zs, hcl⟩ := run_clearX wi b (m * 3) (n - m) (by omega) (fun j hj => own_some hoL _ (by omega)) (fun j _ => own_froz hoL (by omega) _)
              have hmn : (m : Int) ≤ (n : Int) := by omega
              have hmc : (m : Int) ≤ (c : Int) := by omega
              have hmc2 : ¬ c = m := by omega
              have hk2n : ¬ (k2 : Int) < ((n : Int) - (k : Int)) := by omega
              have hk2n' : ¬ k2 < n - k := by omega
              have HF := Lib.hid (show OwnG xidC 24 (wi.setCells b (m * 3) zs) base (.slice (some ⟨b, 0, none⟩) m c) (dedupD l) from by
                rw [← htk]
                exact (hoL.front m (by omega)).wipe zs (m * 3) wi (by rw [List.length_take]; exact Nat.mul_le_mul_right 3 (Nat.min_le_left _ _)))
              have HB := Lib.hid (below_setCells hbb zs (m * 3) wi hbL)
              clear htk hdp
              go_wp2_with fail
              go_ret
              exact ⟨_, rfl, HF.out, HB.out⟩
        · rw [if_neg heq, ← List.take_succ_eq_append_getElem hkl] at hdt
          have hd : decide ((l[k].1, l[k].2.1, l[k].2.2) = (l[k - 1].1, l[k - 1].2.1, l[k - 1].2.2)) = false := by
            rw [show (l[k].1, l[k].2.1, l[k].2.2) = l[k] from rfl, show (l[k - 1].1, l[k - 1].2.1, l[k - 1].2.2) = l[k - 1] from rfl]
            simpa using fun h => heq h.symm
          have HD := Lib.hid hdt
          generalize l[k].1 = a at *
          generalize l[k].2.1 = b1 at *
          generalize l[k].2.2 = x at *
          generalize l[k - 1].1 = a' at *
          generalize l[k - 1].2.1 = b' at *
          generalize l[k - 1].2.2 = x' at *
          have hE2 := fun w => hE a a' b1 x b' x' w
          rw [hd] at hE2
          clear hE hd heq hdt hall
          go_wp2_with fail
          go_quiet (fail)
          go_wp2_with fail
          go_roundw
          case rel => exact ⟨k + 1, _, by omega, by omega, by go_num, rfl, HD.out⟩
          case measure => simp [intOf]; omega
      · rw [show k = n by omega, List.take_of_length_le (by omega)] at hall
        go_wp2_with fail
        go_ret
        exact ⟨_, rfl, by rw [hall]; exact hdr q, below_drewN (Below.refl _ _) q⟩

end Go.Proofs.YtalcfglcbpkebaaDoor
