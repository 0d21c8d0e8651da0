/-
  The document's calls of disks, further: Read, Cut.
  Conditions: none but sizes.
-/
import Derived.Test.YtngjmeohleoglaaDqF
import Derived.StillTailTactics
namespace Go.Proofs.Ytngjmeohleoglaa
open Go.RowKit Go.Shelf
set_option linter.unusedVariables false
set_option linter.unusedSimpArgs false
set_option maxRecDepth 100000

section
variable {w0 w w' : World} {base qb n : Nat} {F : Nat → Prop} {v v' : Value} {st st' : DD}
theorem str8_take (l : List UInt8) (m : Nat) : str8 (l.take m) = (str8 l).extract 0 m := by
  apply ByteArray.ext
  simp [str8, ByteArray.data_extract]

theorem qcut_any (h : AtQ w0 base qb F v st w) (hw : DWf n st) (hn : n ≤ 1000000) (q : DName) (k : Int) :
    Calls Try.prog 27 #[.pointer (some ⟨qb, 0, none⟩), .string (str8 q), .int .i64 k] w (QSaid w0 base qb F (cutD st q k)) := by
  obtain ⟨R, hR⟩ : ∃ R, R = cutD st q k := ⟨_, rfl⟩
  rw [← hR]
  have HD := Lib.hid (qfindD_any h.disk hw.rising q (by have := hw.count; omega))
  have c3 := h.disk.box.c3
  cases hd : st.down with
  | true =>
    rw [hd] at c3
    have HE := Lib.hid (show QSaid w0 base qb F R (.returned (.int .i64 100)) w from by rw [hR, cutD, if_pos hd]; exact ⟨rfl, v, h⟩)
    clear h hR hw hd
    go_enter Try.func27, Try.ntmps27
    go_wp2_with fail
    refine (HD.out).mono ?_
    rintro e w2 ⟨r, rfl, hf, rfl⟩
    clear hf
    go_wp2_with fail
    go_ret
    exact HE.out
  | false =>
    rw [hd] at c3
    by_cases hk : k < 0
    · have HE := Lib.hid (show QSaid w0 base qb F R (.returned (.int .i64 2)) w from by rw [hR, cutD, if_neg (by simp [hd]), if_pos hk]; exact ⟨rfl, v, h⟩)
      clear h hR hw hd
      go_enter Try.func27, Try.ntmps27
      go_wp2_with fail
      refine (HD.out).mono ?_
      rintro e w2 ⟨r, rfl, hf, rfl⟩
      clear hf
      go_wp2_with fail
      go_ret
      exact HE.out
    obtain ⟨m, rfl⟩ : ∃ m : Nat, k = (m : Int) := ⟨k.toNat, by omega⟩
    have hkn : ¬ ((m : Int) < 0) := hk
    cases hg : getA q st.fs with
    | none =>
      have HE := Lib.hid (show QSaid w0 base qb F R (.returned (.int .i64 7)) w from by rw [hR, cutD, if_neg (by simp [hd]), if_neg hkn, hg]; exact ⟨rfl, v, h⟩)
      have HG := Lib.hid hg
      clear h hR hw hd hg
      go_enter Try.func27, Try.ntmps27
      go_wp2_with fail
      refine (HD.out).mono ?_
      rintro e w2 ⟨r, rfl, hf, rfl⟩
      obtain rfl := found_none hf HG.out
      clear hf
      go_wp2_with fail
      go_ret
      exact HE.out
    | some f =>
      have hz := str8_size f.b
      by_cases hl : f.b.length < m
      · have HE := Lib.hid (show QSaid w0 base qb F R (.returned (.int .i64 2)) w from by rw [hR, cutD, if_neg (by simp [hd]), if_neg hkn, hg]; simp only []; rw [if_pos (by omega)]; exact ⟨rfl, v, h⟩)
        have HG := Lib.hid hg
        have HA := Lib.hid h
        have b2 : (f.b.length : Int) < (m : Int) := by omega
        clear h hR hw hd hg hl hk
        go_enter Try.func27, Try.ntmps27
        go_wp2_with fail
        refine (HD.out).mono ?_
        rintro e w2 ⟨r, rfl, hf, rfl⟩
        obtain ⟨i, rfl, hi⟩ := found_some hf HG.out
        have HI := Lib.hid hi
        have i0 : ¬ (i : Int) < 0 := by omega
        clear hf hi
        obtain ⟨b, c, hv, k0, k1, k2, hfr, hil⟩ := HA.out.at_ (i := i) HI.out
        have d0 := HA.out.disk.box.c0
        have b1 : (i : Int) < (st.fs.length : Int) := by omega
        subst hv
        have HIL := Lib.hid hil
        clear k0 hil
        go_wp2_with fail
        go_ret
        exact HE.out
      · have hR2 : R = opD st false (setS q ⟨f.b.take m, min f.safe m⟩ st.fs) := by
          rw [hR, cutD, if_neg (by simp [hd]), if_neg hkn, hg]
          simp only []
          rw [if_neg (by omega), show ((m : Int)).toNat = m from by omega]
        have HB := Lib.hid (qburns_at h hw hd)
        have HG := Lib.hid hg
        have HR := Lib.hid hR2
        have HW := Lib.hid hw
        have HA := Lib.hid h
        have HL := Lib.hid hl
        have b2 : ¬ (f.b.length : Int) < (m : Int) := by omega
        have b3 : (m : Int) ≤ (f.b.length : Int) := by omega
        have hex : (str8 f.b).extract 0 m = str8 (f.b.take m) := by rw [str8_take]
        clear h hR hw hd hg hR2 hl hk
        go_enter Try.func27, Try.ntmps27
        go_wp2_with fail
        refine (HD.out).mono ?_
        rintro e w2 ⟨r, rfl, hf, rfl⟩
        obtain ⟨i, rfl, hi⟩ := found_some hf HG.out
        have HI := Lib.hid hi
        have i0 : ¬ (i : Int) < 0 := by omega
        clear hf hi
        obtain ⟨b, c, hv, k0, k1, k2, hfr, hil⟩ := HA.out.at_ (i := i) HI.out
        have d0 := HA.out.disk.box.c0
        have b1 : (i : Int) < (st.fs.length : Int) := by omega
        subst hv
        have HIL := Lib.hid hil
        clear k0 hil k2 hfr
        go_wp2_with fail
        refine (HB.out).mono ?_
        clear d0 k1
        rintro e w3 (⟨hf1, rfl, ha⟩ | ⟨hf1, rfl, ha⟩)
        · have HE := Lib.hid (show QSaid w0 base qb F R (.returned (.int .i64 100)) w3 from by rw [HR.out, opD, if_pos hf1]; exact ⟨rfl, _, ha⟩)
          clear hf1 ha
          go_wp2_with fail
          go_ret
          exact HE.out
        · obtain ⟨b', c', hv, k0, k1, k2, hfr, hil⟩ := ha.at_ (i := i) HI.out
          simp only [Value.slice.injEq, Option.some.injEq, Addr.mk.injEq, and_true, true_and] at hv
          obtain ⟨rfl, rfl⟩ := hv
          have d0 := ha.disk.box.c0
          have h4 := ha.drew.cell (i := i) (f' := ⟨f.b.take m, f.safe⟩) HI.out 1 (.string (str8 (f.b.take m))) (by omega) rfl
          have k1' : w3.drew.cell? ⟨b, i * 3 + 1, none⟩ = some (.string (str8 f.b)) := k1
          have fr' : ∀ j, w3.drew.frozen? ⟨b, j, none⟩ = false := hfr
          have hi4 : (st.fs.set i (q, (⟨f.b.take m, f.safe⟩ : FD)))[i]? = some (q, ⟨f.b.take m, f.safe⟩) := by
            rw [List.getElem?_set]
            simp [HIL.out]
          have HF1 := Lib.hid hf1
          have HS := Lib.hid (show ∀ w4 : World, AtQ w0 base qb F (.slice (some ⟨b, 0, none⟩) st.fs.length c) { room := st.room, fuse := st.fuse - 1, down := st.down, fs := st.fs.set i (q, (⟨f.b.take m, f.safe⟩ : FD)) } w4 → QSaid w0 base qb F R (.returned (.int .i64 0)) (w4.drew.setCell ⟨b, i * 3 + 2, none⟩ (.int .i64 (min f.safe m : Nat))) from fun w4 h4 => by
            have h5 := h4.drew.cell (i := i) (f' := ⟨f.b.take m, min f.safe m⟩) hi4 2 (.int .i64 (min f.safe m : Nat)) (by omega) rfl
            rw [HR.out, opD, if_neg HF1.out]
            refine ⟨rfl, .slice (some ⟨b, 0, none⟩) st.fs.length c, ?_⟩
            simp only [List.set_set] at h5
            rw [set_at HW.out.rising HI.out] at h5
            exact h5)
          have H4 := Lib.hid h4
          obtain ⟨b5, c5, hv5, _, _, j2, hfr5, _⟩ := h4.at_ (i := i) hi4
          have hx : b5 = b := by
            simp only [Value.slice.injEq, Option.some.injEq, Addr.mk.injEq] at hv5
            exact hv5.1.1.symm
          subst hx
          have e0 := h4.disk.box.c0
          obtain ⟨w4, hw4⟩ : ∃ w4, w4 = w3.drew.setCell ⟨b5, i * 3 + 1, none⟩ (.string (str8 (f.b.take m))) := ⟨_, rfl⟩
          rw [← hw4] at e0 j2 hfr5 H4
          have HE := Lib.hid (HS.out w4 H4.out)
          have HW4 := Lib.hid hw4
          have k2' : w4.drew.cell? ⟨b5, i * 3 + 2, none⟩ = some (.int .i64 f.safe) := j2
          have fr4 : ∀ j, w4.drew.frozen? ⟨b5, j, none⟩ = false := hfr5
          clear hf1 ha k0 hil h4 hi4 hv5 hw4
          go_upto_region 12 with fail
          go_still_tail 17, (by kernel_rfl)
          change wpList _ _ _ _ _ w3.drew
          generalize w3.drew = w5 at *
          go_upto_region 13 with fail
          rw [← HW4.out]
          go_still_tail 17, (by kernel_rfl)
          change wpList _ _ _ _ _ w4.drew
          generalize w4.drew = w6 at *
          go_wp2_with fail
          all_goals
            go_ret
            have hx := HE.out
            rw [show ((min f.safe m : Nat) : Int) = min (f.safe : Int) (m : Int) by omega] at hx
            exact hx
end

end Go.Proofs.Ytngjmeohleoglaa
