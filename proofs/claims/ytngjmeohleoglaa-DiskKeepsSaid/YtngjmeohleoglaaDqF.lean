/-
  The document's calls of disks, further: Read, Cut.
  Conditions: none but sizes.
-/
import Derived.Test.YtngjmeohleoglaaDqE
import Derived.StillTailTactics
namespace Go.Proofs.Ytngjmeohleoglaa
open Go.RowKit Go.Shelf
set_option linter.unusedVariables false
set_option linter.unusedSimpArgs false
set_option maxRecDepth 100000

section
variable {w0 w w' : World} {base qb n : Nat} {F : Nat → Prop} {v v' : Value} {st st' : DD}
def QTold (w0 : World) (base qb : Nat) (F : Nat → Prop) (st : DD) (R : List UInt8 × Nat × Nat) : Ending → World → Prop := fun e w' => e = .returned (.tuple #[.string (str8 R.1), .int .i64 R.2.1, .int .i64 R.2.2]) ∧ ∃ v', AtQ w0 base qb F v' st w'
theorem AtQ.drewN (h : AtQ w0 base qb F v st w) (k : Nat) : AtQ w0 base qb F v st (w.drewN k) := ⟨h.disk.drewN k, h.own, h.mv.drewN k, h.has, h.low, h.fit⟩

theorem qread_any (h : AtQ w0 base qb F v st w) (hw : DWf n st) (hn : n ≤ 1000000) (q : DName) :
    Calls Try.prog 32 #[.pointer (some ⟨qb, 0, none⟩), .string (str8 q)] w (QTold w0 base qb F st (readD st q)) := by
  obtain ⟨R, hR⟩ : ∃ R, R = readD st q := ⟨_, rfl⟩
  rw [← hR]
  have HD := Lib.hid (qfindD_any h.disk hw.rising q (by have := hw.count; omega))
  have c3 := h.disk.box.c3
  cases hd : st.down with
  | true =>
    rw [hd] at c3
    have HE := Lib.hid (show QTold w0 base qb F st R (.returned (.tuple #[.string ⟨#[]⟩, .int .i64 0, .int .i64 100])) w from by rw [hR, readD, if_pos hd]; exact ⟨rfl, v, h⟩)
    clear h hR hw hd
    go_enter Try.func32, Try.ntmps32
    go_wp2_with fail
    refine (HD.out).mono ?_
    rintro e w2 ⟨r, rfl, hf, rfl⟩
    clear hf
    go_wp2_with fail
    refine bodyPost_ret (results_tmp3 rfl _ _ _) rfl ?_
    exact HE.out
  | false =>
    rw [hd] at c3
    cases hg : getA q st.fs with
    | none =>
      have HE := Lib.hid (show QTold w0 base qb F st R (.returned (.tuple #[.string ⟨#[]⟩, .int .i64 0, .int .i64 7])) w from by rw [hR, readD, if_neg (by simp [hd]), hg]; exact ⟨rfl, v, h⟩)
      have HG := Lib.hid hg
      clear h hR hw hd hg
      go_enter Try.func32, Try.ntmps32
      go_wp2_with fail
      refine (HD.out).mono ?_
      rintro e w2 ⟨r, rfl, hf, rfl⟩
      obtain rfl := found_none hf HG.out
      clear hf
      go_wp2_with fail
      refine bodyPost_ret (results_tmp3 rfl _ _ _) rfl ?_
      exact HE.out
    | some f =>
      have hR2 : R = (f.b, f.safe, 0) := by rw [hR, readD, if_neg (by simp [hd]), hg]
      have HG := Lib.hid hg
      have HR := Lib.hid hR2
      have HA := Lib.hid h
      clear h hR hw hd hg hR2
      go_enter Try.func32, Try.ntmps32
      go_wp2_with fail
      refine (HD.out).mono ?_
      rintro e w2 ⟨r, rfl, hf, rfl⟩
      obtain ⟨i, rfl, hi⟩ := found_some hf HG.out
      have HI := Lib.hid hi
      have i0 : ¬ (i : Int) < 0 := by omega
      clear hf hi
      obtain ⟨b, c, hv, k0, k1, k2, hfr, hil⟩ := HA.out.at_ (i := i) HI.out
      have HE := Lib.hid (show ∀ k, QTold w0 base qb F st R (.returned (.tuple #[.string (str8 f.b), .int .i64 f.safe, .int .i64 0])) (w2.drewN k) from fun k => by
        rw [HR.out]
        exact ⟨rfl, v, HA.out.drewN k⟩)
      have d0 := HA.out.disk.box.c0
      have b1 : (i : Int) < (st.fs.length : Int) := by omega
      subst hv
      have HIL := Lib.hid hil
      clear k0 hil
      go_wp2_with fail
      go_quiet (fail)
      go_wp2_with fail
      refine bodyPost_ret (results_tmp3 rfl _ _ _) rfl ?_
      exact HE.out _

end

end Go.Proofs.Ytngjmeohleoglaa
