/-
  The law's own 'same', of two disks that are the same.
  Conditions: none but sizes.
-/
import Derived.Test.YtngjmeohleoglaaDqU
import Derived.BigQuiet
namespace Go.Proofs.Ytngjmeohleoglaa
open Go.RowKit Go.Shelf
set_option linter.unusedVariables false
set_option linter.unusedSimpArgs false
set_option maxRecDepth 100000

theorem file_cell {w : World} {d o : Nat} {l : DRow} (h : ∀ j (h : j < l.length) k, k < fileC.sz → w.cell? ⟨d, o + (j * fileC.sz + k), none⟩ = (fileC.enc l[j])[k]?) {k : Nat} (hk : k < l.length) :
    w.cell? ⟨d, o + k * 3, none⟩ = some (.string (str8 l[k].1)) ∧ w.cell? ⟨d, o + k * 3 + 1, none⟩ = some (.string (str8 l[k].2.b)) ∧ w.cell? ⟨d, o + k * 3 + 2, none⟩ = some (.int .i64 l[k].2.safe) :=
  ⟨h k hk 0 (by decide), h k hk 1 (by decide), h k hk 2 (by decide)⟩

section
variable {w0 w : World} {base nb qb n m : Nat} {X : Nat → Prop} {st : DD}
set_option maxHeartbeats 4000000 in
theorem same_any (h : Both w0 base nb qb X n m st st w) (hn : n ≤ 1000000) (hm : m ≤ 1000000) :
    Calls Try.prog 12 #[.pointer (some ⟨nb, 0, none⟩), .pointer (some ⟨qb, 0, none⟩)] w fun e w' => e = .returned (.bool true) ∧ Below w.heap.size w w' := by
  obtain ⟨G, v, hq0, _⟩ := h.doc
  have HLV := Lib.hid (fun W (hb : Below w.heap.size w W) => h.live.kept hb)
  have HQI := Lib.hid (fun W (hb : Below w.heap.size w W) => hq0.disk.below hb)
  have hwf := h.wf
  have hcnt := h.wf.count
  have HWF := Lib.hid hwf
  have HL1 := Lib.hid (list_live h.live hn)
  have hfl : st.fs.length ≤ 1000000 := by omega
  have HL2 := Lib.hid (fun W (hb : Below w.heap.size w W) => qlist_any (HQI.out W hb) hfl)
  have hnl : (st.fs.map (·.1)).length = st.fs.length := List.length_map _
  have HNL := Lib.hid hnl
  clear hq0 hwf hcnt hnl
  go_enter Try.func12, Try.ntmps12
  go_wp2_with fail
  with_reducible refine HL1.out.mono ?_
  rintro e w1 ⟨v1, rfl, ho1, hb1⟩
  go_wp2_with fail
  with_reducible refine (HL2.out w1 hb1).mono ?_
  rintro e w2 ⟨v2, rfl, ho2, hb2⟩
  have hw2 : Below w.heap.size w w2 := hb1.trans (hb2.mono hb1.size)
  obtain ⟨A1, c1, rfl, _, _⟩ := ho1.form
  obtain ⟨A2, c2, rfl, _, _⟩ := ho2.form
  rw [HNL.out]
  obtain ⟨g1, _, hs1⟩ := (ho1.below hb2 (Nat.le_refl _)).shows
  obtain ⟨g2, _, hs2⟩ := ho2.shows
  rw [HNL.out] at hs1 hs2
  have hqi := HQI.out w2 hw2
  have hlv := HLV.out w2 hw2
  obtain ⟨A3, c3, rfl, _, _⟩ := hqi.row.form
  have q0 := hqi.box.c0
  have q3 := hqi.box.c3
  obtain ⟨g3, _, hs3⟩ := hqi.row.shows
  have HUS := Lib.hid (fun q => used_live (hlv.kept (below_drewN (Below.refl _ _) q)))
  have HQU := Lib.hid (fun q => qused_any (hqi.drewN q) (by have := HWF.out.used; have := HWF.out.room; omega) hfl)
  have HDN := Lib.hid (fun q => down_live (hlv.kept (below_drewN (Below.refl _ _) q)))
  have HRD := Lib.hid (fun q k (hk : k < st.fs.length) => read_live (hlv.kept (below_drewN (Below.refl _ _) q)) (st.fs[k].1) (by have := hlv.wf.each _ (List.getElem_mem hk); omega))
  have HSF := Lib.hid (fun q k (hk : k < st.fs.length) => safe_live (hlv.kept (below_drewN (Below.refl _ _) q)) (st.fs[k].1) (by have := hlv.wf.each _ (List.getElem_mem hk); omega))
  have HRE := Lib.hid (fun (hd : st.down = false) k (hk : k < st.fs.length) => read_listed hlv.wf hd k hk)
  have HS1 := Lib.hid hs1
  have HS2 := Lib.hid hs2
  have HS3 := Lib.hid hs3
  have HB2 := Lib.hid hw2
  have e3 : ((st.fs.length : Int) != (st.fs.length : Int)) = false := by simp
  clear ho1 ho2 hs1 hs2 hs3 hqi hlv hb1 hb2 hw2 HL1 HL2
  go_wp2_with fail
  cases hdn : st.down with
  | true =>
    have hdq := HDN.out
    rw [hdn] at hdq q3
    have HDQ := Lib.hid hdq
    go_quiet (first
      | (go_at_call 21; with_reducible exact Calls.quiet_of_same (HUS.out _))
      | (go_at_call 38; with_reducible exact Calls.quiet_of_same (HQU.out _))
      | (go_at_call 15; with_reducible exact Calls.quiet_of_same (HDQ.out _)))
    go_wp2_with fail
    go_loopw [7] (fun ii wr => ∃ j q : Nat, j ≤ st.fs.length ∧ ii = .int .i64 j ∧ wr = w2.drewN q) (fun ii _ => st.fs.length - (intOf ii).toNat)
    case atStart => exact ⟨0, _, Nat.zero_le _, rfl, rfl⟩
    case round =>
      obtain ⟨j, q, hj, rfl, rfl⟩ := hrel
      by_cases hlt : j < st.fs.length
      · have hji : (j : Int) < (st.fs.length : Int) := by omega
        obtain ⟨o1, rfl, _, hc1⟩ := HS1.out.at_ (by rw [HNL.out]; omega)
        obtain ⟨o2, rfl, _, hc2⟩ := HS2.out.at_ (by rw [HNL.out]; omega)
        have y1 : w2.cell? ⟨g1, o1 + j, none⟩ = some (.string (str8 (st.fs[j].1))) := by
          have := hc1 j (by simp; exact hlt) 0 (by decide)
          simpa [nameC] using this
        have y2 : w2.cell? ⟨g2, o2 + j, none⟩ = some (.string (str8 (st.fs[j].1))) := by
          have := hc2 j (by simp; exact hlt) 0 (by decide)
          simpa [nameC] using this
        clear hc1 hc2
        generalize st.fs[j].1 = nm at *
        go_wp2_with fail
        go_quiet (fail)
        go_wp2_with fail
        go_roundw
        case rel => exact ⟨j + 1, _, by omega, by go_num, rfl⟩
        case measure => simp [intOf]; omega
      · have hji : ¬ (j : Int) < (st.fs.length : Int) := by omega
        go_wp2_with fail
        go_loopw [8] (fun ii wr => ∃ j q : Nat, j ≤ st.fs.length ∧ ii = .int .i64 j ∧ wr = w2.drewN q) (fun ii _ => st.fs.length - (intOf ii).toNat)
        case atStart => exact ⟨0, _, Nat.zero_le _, rfl, rfl⟩
        case round =>
          obtain ⟨k, q, hk, rfl, rfl⟩ := hrel
          have r0 : (w2.drewN q).cell? ⟨qb, 0, none⟩ = some (.slice A3 st.fs.length c3) := q0
          have r3 : (w2.drewN q).cell? ⟨qb, 3, none⟩ = some (.bool true) := q3
          by_cases hlk : k < st.fs.length
          · have hki : (k : Int) < (st.fs.length : Int) := by omega
            go_wp2_with fail
            go_ret
            exact ⟨rfl, below_drewN (HB2.out) _⟩
          · have hki : ¬ (k : Int) < (st.fs.length : Int) := by omega
            go_wp2_with fail
            go_ret
            exact ⟨rfl, below_drewN (HB2.out) _⟩
  | false =>
    have hdq := HDN.out
    rw [hdn] at hdq q3
    have HDQ := Lib.hid hdq
    go_quiet (first
      | (go_at_call 21; with_reducible exact Calls.quiet_of_same (HUS.out _))
      | (go_at_call 38; with_reducible exact Calls.quiet_of_same (HQU.out _))
      | (go_at_call 15; with_reducible exact Calls.quiet_of_same (HDQ.out _)))
    go_wp2_with fail
    go_loopw [7] (fun ii wr => ∃ j q : Nat, j ≤ st.fs.length ∧ ii = .int .i64 j ∧ wr = w2.drewN q) (fun ii _ => st.fs.length - (intOf ii).toNat)
    case atStart => exact ⟨0, _, Nat.zero_le _, rfl, rfl⟩
    case round =>
      obtain ⟨j, q, hj, rfl, rfl⟩ := hrel
      by_cases hlt : j < st.fs.length
      · have hji : (j : Int) < (st.fs.length : Int) := by omega
        obtain ⟨o1, rfl, _, hc1⟩ := HS1.out.at_ (by rw [HNL.out]; omega)
        obtain ⟨o2, rfl, _, hc2⟩ := HS2.out.at_ (by rw [HNL.out]; omega)
        have y1 : w2.cell? ⟨g1, o1 + j, none⟩ = some (.string (str8 (st.fs[j].1))) := by
          have := hc1 j (by simp; exact hlt) 0 (by decide)
          simpa [nameC] using this
        have y2 : w2.cell? ⟨g2, o2 + j, none⟩ = some (.string (str8 (st.fs[j].1))) := by
          have := hc2 j (by simp; exact hlt) 0 (by decide)
          simpa [nameC] using this
        clear hc1 hc2
        generalize st.fs[j].1 = nm at *
        go_wp2_with fail
        go_quiet (fail)
        go_wp2_with fail
        go_roundw
        case rel => exact ⟨j + 1, _, by omega, by go_num, rfl⟩
        case measure => simp [intOf]; omega
      · have hji : ¬ (j : Int) < (st.fs.length : Int) := by omega
        go_wp2_with fail
        go_loopw [8] (fun ii wr => ∃ j q : Nat, j ≤ st.fs.length ∧ ii = .int .i64 j ∧ wr = w2.drewN q) (fun ii _ => st.fs.length - (intOf ii).toNat)
        case atStart => exact ⟨0, _, Nat.zero_le _, rfl, rfl⟩
        case round =>
          obtain ⟨k, q, hk, rfl, rfl⟩ := hrel
          have r0 : (w2.drewN q).cell? ⟨qb, 0, none⟩ = some (.slice A3 st.fs.length c3) := q0
          have r3 : (w2.drewN q).cell? ⟨qb, 3, none⟩ = some (.bool false) := q3
          by_cases hlk : k < st.fs.length
          · have hki : (k : Int) < (st.fs.length : Int) := by omega
            obtain ⟨o3, rfl, _, hc3⟩ := HS3.out.at_ (by omega)
            obtain ⟨z0, z1, z2⟩ := file_cell hc3 hlk
            have t0 : (w2.drewN q).cell? ⟨g3, o3 + k * 3, none⟩ = some (.string (str8 st.fs[k].1)) := z0
            have t1 : (w2.drewN q).cell? ⟨g3, o3 + k * 3 + 1, none⟩ = some (.string (str8 st.fs[k].2.b)) := z1
            have t2 : (w2.drewN q).cell? ⟨g3, o3 + k * 3 + 2, none⟩ = some (.int .i64 st.fs[k].2.safe) := z2
            have hrd := HRD.out q k hlk
            have hsf := HSF.out q k hlk
            rw [HRE.out hdn k hlk] at hrd hsf
            simp only [] at hrd hsf
            have HR1 := Lib.hid hrd
            have HF1 := Lib.hid hsf
            clear hc3 z0 z1 z2 hrd hsf
            generalize st.fs[k].1 = nm at *
            generalize st.fs[k].2 = fd at *
            obtain ⟨bb, sf⟩ := fd
            simp only [] at t1 t2 HR1 HF1
            go_wp2_with fail
            with_reducible refine HR1.out.mono ?_
            rintro e wy ⟨rfl, rfl⟩
            go_wp2_with fail
            with_reducible refine HF1.out.mono ?_
            rintro e wy ⟨rfl, rfl⟩
            go_wp2_with fail
            go_roundw
            case rel => exact ⟨k + 1, _, by omega, by go_num, rfl⟩
            case measure => simp [intOf]; omega
          · have hki : ¬ (k : Int) < (st.fs.length : Int) := by omega
            go_wp2_with fail
            go_ret
            exact ⟨rfl, below_drewN (HB2.out) _⟩
end

end Go.Proofs.Ytngjmeohleoglaa
