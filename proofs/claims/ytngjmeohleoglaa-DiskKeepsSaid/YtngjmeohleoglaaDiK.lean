/-
  The walk of what disk's Append hands to operate, of a file that is made.
  Conditions: none but sizes.
-/
import Derived.Test.YtngjmeohleoglaaDiI
namespace Go.Proofs.Ytngjmeohleoglaa
open Go.RowKit
set_option linter.unusedVariables false
set_option linter.unusedSimpArgs false
set_option maxRecDepth 100000

section
variable {w : World} {base nb mb : Nat} {st : DD} {X A B : List PF} {x : PF} {q : DName} {p : Nat}
/-- What Append's closure leaves where a file is made. -/
def MadeD (w : World) (base nb mb : Nat) (st : DD) (X : List PF) (q : DName) (p : Nat) (t : List UInt8) : Ending → World → Prop := fun e w' =>
  e = .returned (.tuple #[]) ∧ ∃ v', DiskI w' base nb mb (X ++ [⟨q, p, v', ⟨t, 0⟩⟩]) { st with fs := setS q ⟨t, 0⟩ st.fs } ∧ Mv (fun k => k = nb ∨ k = mb ∨ k = p) w w' ∧ ∀ k, v'.ownBlock = some k → w.heap.size ≤ k
set_option maxHeartbeats 2000000 in
theorem append1_new (h : DiskI w base nb mb X st) (hnq : ∀ x ∈ X, x.q ≠ q) (hnp : ∀ x ∈ X, x.p ≠ p) (hbp : BoxI w p (.slice none 0 0) 0) (hlow : base ≤ p) (hq : q.length ≤ 140737488355328) (s : ByteArray) (hl : s.size ≤ 140737488355328) (hu : usedL st.fs + s.size ≤ 9223372036854775807) (hbase : base ≤ w.heap.size) {ib fb db qb tb : Nat}
    (hib : Bx w ib (.bool false) 4) (hfb : Bx w fb (.pointer (some ⟨p, 0, none⟩)) 65) (hdb : Bx w db (.pointer (some ⟨nb, 0, none⟩)) 23) (hqb : Bx w qb (.string (str8 q)) 9) (htb : Bx w tb (.string s) 9) :
    Calls Try.prog 48 #[.pointer (some ⟨ib, 0, none⟩), .pointer (some ⟨fb, 0, none⟩), .pointer (some ⟨db, 0, none⟩), .pointer (some ⟨qb, 0, none⟩), .pointer (some ⟨tb, 0, none⟩)] w (MadeD w base nb mb st X q p (sb s)) := by
  have h0 := (RenR.start h).drew
  obtain ⟨u', hu'⟩ : ∃ u', u' = usedL st.fs + (sb s).length := ⟨_, rfl⟩
  have hsl := sb_length s
  have eu : IntKind.i64.wrap ((usedL st.fs : Int) + (s.size : Int)) = (u' : Int) := by rw [i64_id _ (by omega) (by omega)]; omega
  have HC := Lib.hid (fun w2 => clone_any (str8 q) w2 (by rw [str8_size]; omega))
  have HY := Lib.hid (fun w5 (hb5 : Below w.drew.heap.size w.drew w5) => And.intro (And.intro ((h0.below hb5).bx h hdb (by decide)).c (And.intro ((h0.below hb5).bx h hfb (by decide)).c (And.intro ((h0.below hb5).bx h hqb (by decide)).c (h0.below hb5).box.c2))) ((h0.below hb5).put hq (.pointer (some ⟨p, 0, none⟩))))
  have HZ := Lib.hid (fun w6 (h6 : RenR w nb mb st.room (usedL st.fs) st.fuse st.down (putA q (.pointer (some ⟨p, 0, none⟩)) (Lof X)) w6) =>
    And.intro (h6.bx h hfb (by decide)) (And.intro (h6.bx h hdb (by decide)) (And.intro (h6.bx h htb (by decide))
      (show BoxI w6 p (.slice none 0 0) 0 from (h6.mv.block _ hbp.lt (by rintro (e | e); exact (h.box.neI hbp) e.symm; exact h.map.neCells hbp e)).trans hbp))))
  have HE := Lib.hid (fun w6 (h6 : RenR w nb mb st.room (usedL st.fs) st.fuse st.down (putA q (.pointer (some ⟨p, 0, none⟩)) (Lof X)) w6) v8 w8 (ho : Own 5 w8 w6.heap.size v8 (sb s)) (hgr : w6.grownBy w8 none) => append_new h hnq hnp hbp hlow hbase h6 ho hgr hu')
  have HBX := Lib.hid (And.intro hfb (And.intro hdb htb))
  have i0 := hib.c
  have k0 : w.drew.cell? ⟨db, 0, none⟩ = _ := hdb.c
  have k1 : w.drew.cell? ⟨nb, 2, none⟩ = _ := h.box.c2
  have k2 : w.drew.cell? ⟨qb, 0, none⟩ = _ := hqb.c
  have k3 : w.drew.cell? ⟨fb, 0, none⟩ = _ := hfb.c
  clear h hnq hnp hbp hlow hq hu hbase hib hfb hdb hqb htb hu' hsl h0
  unfold MadeD
  go_enter Try.func48, Try.ntmps48
  go_upto_region 1 with fail
  go_cut [0] from 7 to 13 (fun z wx => z = .pointer (some ⟨ib, 0, none⟩) ∧ RenR w nb mb st.room (usedL st.fs) st.fuse st.down (putA q (.pointer (some ⟨p, 0, none⟩)) (Lof X)) wx)
  case first =>
    go_region_law (first
      | (go_simp
         go_at_call 42
         refine (HC.out _).mono ?_
         rintro e w5 ⟨rfl, hb5⟩
         obtain ⟨⟨p0, p1, p2, p3⟩, w6, hput, h6⟩ := HY.out w5 hb5
         have hput' : (Instr.mapUpdate 48 (.map (some mb)) (.string (str8 q)) (.pointer (some ⟨p, 0, none⟩))).run Try.prog w5 = .ok () w6 := hput
         have H6 := Lib.hid h6
         clear hput h6))
    all_goals
      go_wp2_with fail
      go_meet
      exact ⟨rfl, H6.out⟩
  case rest =>
    obtain ⟨rfl, hcut⟩ := hcut
    rename World => w6
    have h6' := hcut
    have hZ := HZ.out w6 hcut
    have k0 : w6.drew.cell? ⟨fb, 0, none⟩ = _ := hZ.1.c
    have k1 : w6.drew.cell? ⟨tb, 0, none⟩ = _ := hZ.2.2.1.c
    have k2 : w6.drew.cell? ⟨p, 0, none⟩ = _ := hZ.2.2.2.c0
    have HE6 := Lib.hid (fun v8 w8 (ho : Own 5 w8 w6.drew.heap.size v8 (sb s)) (hgr : w6.drew.grownBy w8 none) => HE.out w6.drew hcut.drew v8 w8 ho hgr)
    have hown : Own 5 w6.drew w6.drew.heap.size (.slice none 0 0) [] := Own.nil_ _ _ _
    have HH := Lib.hid hcut
    clear hcut h6' hZ HY HE HC HZ i0
    go_wp2_with fail
    go_region_law ((refine step_append8sW _ rfl (.tmp 18) (.tmp 19) 66 9 rfl w6.drew.heap.size 5 Try.underlying66 Try.underlying9 info5 (.slice none 0 0) [] rfl hown s rfl (by simpa using hl) (Nat.le_refl _) ?_
                    intro v8 w8 ho8 hg8 hwh8
                    obtain ⟨A8, n8, c8, rfl⟩ : ∃ A n c, v8 = .slice A n c := by
                      obtain ⟨A, c, e, _⟩ := ho8.form
                      exact ⟨_, _, _, e⟩
                    rw [List.nil_append] at ho8
                    have H8 := Lib.hid (HE6.out _ w8 ho8 hg8)
                    have r0 := H8.out.1.boxI.c0
                    have r1 := H8.out.1.boxI.fr 0
                    have r2 := (H8.out.1.bx _ _ _ HBX.out.1 (by decide)).c
                    clear ho8 hg8 hwh8 HE6))
    all_goals
      have s0 : (w8.setCell ⟨p, 0, none⟩ (.slice A8 n8 c8)).drew.cell? ⟨db, 0, none⟩ = _ := (H8.out.2.1 _ _ _ HBX.out.2.1 (by decide) (by decide)).c
      have s1 : (w8.setCell ⟨p, 0, none⟩ (.slice A8 n8 c8)).drew.cell? ⟨tb, 0, none⟩ = _ := (H8.out.2.1 _ _ _ HBX.out.2.2 (by decide) (by decide)).c
      have s2 : (w8.setCell ⟨p, 0, none⟩ (.slice A8 n8 c8)).drew.cell? ⟨nb, 1, none⟩ = _ := H8.out.2.2.1.c1
      have s3 := H8.out.2.2.1.fr 1
      clear r0 r1 r2 k0 k1 k2 hown
      generalize hW9 : w8.setCell ⟨p, 0, none⟩ (.slice A8 n8 c8) = W9 at *
      have HW9 := Lib.hid hW9
      clear hW9
      go_wp2_with fail
      go_region
      first | go_end0 | refine bodyPost_ret (results_none rfl _ _ _) rfl ?_
      have h8 := H8.out
      refine ⟨rfl, .slice A8 n8 c8, h8.2.2.2.1.draw, h8.2.2.2.2.1.drew, h8.2.2.2.2.2⟩
end

end Go.Proofs.Ytngjmeohleoglaa
