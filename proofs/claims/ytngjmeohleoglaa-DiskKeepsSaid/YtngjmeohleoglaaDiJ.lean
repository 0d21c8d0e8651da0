/-
  The walk of what disk's Append hands to operate.
  Conditions: none but sizes.
-/
import Derived.Test.YtngjmeohleoglaaDiI
namespace Go.Proofs.Ytngjmeohleoglaa
open Go.RowKit
set_option linter.unusedVariables false
set_option linter.unusedSimpArgs false
set_option maxRecDepth 100000

section
variable {w : World} {base nb mb : Nat} {st : DD} {X A B : List PF} {x : PF} {q : DName} {p : Nat}
/-- What Append's closure leaves of a file that is there. -/
def GrownD (w : World) (base nb mb : Nat) (st : DD) (A B : List PF) (x : PF) (t : List UInt8) : Ending → World → Prop := fun e w' =>
  e = .returned (.tuple #[]) ∧ ∃ v', DiskI w' base nb mb (A ++ ⟨x.q, x.p, v', ⟨x.f.b ++ t, x.f.safe⟩⟩ :: B) { st with fs := setS x.q ⟨x.f.b ++ t, x.f.safe⟩ st.fs } ∧ Mv (fun k => k = nb ∨ k = x.p ∨ x.v.ownBlock = some k) w w' ∧ (v'.ownBlock = x.v.ownBlock ∨ ∃ k, v'.ownBlock = some k ∧ w.heap.size ≤ k)
set_option maxHeartbeats 2000000 in
theorem append1_old (h : DiskI w base nb mb (A ++ x :: B) st) (hg : getA x.q st.fs = some x.f) (s : ByteArray) (hl : x.f.b.length + s.size ≤ 140737488355328) (hu : usedL st.fs + s.size ≤ 9223372036854775807) (hbase : base ≤ w.heap.size) {ib fb db sb' tb : Nat}
    (hib : Bx w ib (.bool true) 4) (hfb : Bx w fb (.pointer (some ⟨x.p, 0, none⟩)) 65) (hdb : Bx w db (.pointer (some ⟨nb, 0, none⟩)) 23) (htb : Bx w tb (.string s) 9) :
    Calls Try.prog 48 #[.pointer (some ⟨ib, 0, none⟩), .pointer (some ⟨fb, 0, none⟩), .pointer (some ⟨db, 0, none⟩), .pointer (some ⟨sb', 0, none⟩), .pointer (some ⟨tb, 0, none⟩)] w (GrownD w base nb mb st A B x (sb s)) := by
  obtain ⟨Ax, cx, hv, _, _⟩ := (h.file x (by simp)).2.form
  have hown : Own 5 w.drew base (.slice Ax x.f.b.length cx) x.f.b := by rw [← hv]; exact (h.draw.file x (by simp)).2
  obtain ⟨u', hu'⟩ : ∃ u', u' = usedL st.fs + (sb s).length := ⟨_, rfl⟩
  have hsl := sb_length s
  have eu : IntKind.i64.wrap ((usedL st.fs : Int) + (s.size : Int)) = (u' : Int) := by rw [i64_id _ (by omega) (by omega)]; omega
  have HE := Lib.hid (fun v8 w8 (ho : Own 5 w8 base v8 (x.f.b ++ sb s)) (hgr : w.drew.grownBy w8 x.v.ownBlock) hwh => append_old h.draw hg ho hgr hwh hu')
  have i0 := hib.c
  have k0 : w.drew.cell? ⟨fb, 0, none⟩ = _ := hfb.c
  have k1 : w.drew.cell? ⟨tb, 0, none⟩ = _ := htb.c
  have k2 : w.drew.cell? ⟨x.p, 0, none⟩ = some (.slice Ax x.f.b.length cx) := by rw [← hv]; exact (h.file x (by simp)).1.c0
  rw [hv] at HE
  have HB := Lib.hid (And.intro (show Bx w.drew fb _ _ from hfb) (And.intro (show Bx w.drew db _ _ from hdb) (show Bx w.drew tb _ _ from htb)))
  have hbd : base ≤ w.drew.heap.size := hbase
  have hqw : Mv (fun k => k = nb ∨ k = x.p ∨ x.v.ownBlock = some k) w w.drew := (Mv.refl _ _).drew
  have HQ := Lib.hid hqw
  have HV := Lib.hid hv
  clear h hg hu hbase hib hfb hdb htb hu' hsl hqw hv
  unfold GrownD
  rw [HV.out]
  rw [HV.out] at HQ
  go_enter Try.func48, Try.ntmps48
  go_wp2_with fail
  go_region_law ((refine step_append8sW _ rfl (.tmp 18) (.tmp 19) 66 9 rfl base 5 Try.underlying66 Try.underlying9 info5 (.slice Ax x.f.b.length cx) x.f.b rfl hown s rfl hl hbd ?_
                  intro v8 w8 ho8 hg8 hwh8
                  obtain ⟨A8, n8, c8, rfl⟩ : ∃ A n c, v8 = .slice A n c := by
                    obtain ⟨A, c, e, _⟩ := ho8.form
                    exact ⟨_, _, _, e⟩
                  have H8 := Lib.hid (HE.out _ w8 ho8 hg8 hwh8)
                  have r0 := H8.out.1.boxI.c0
                  have r1 := H8.out.1.boxI.fr 0
                  have r2 := (H8.out.1.bx _ _ _ HB.out.1 (by decide)).c
                  have W8 := Lib.hid hwh8
                  clear ho8 hg8 hwh8 HE))
  all_goals
    have s0 : (w8.setCell ⟨x.p, 0, none⟩ (.slice A8 n8 c8)).drew.cell? ⟨db, 0, none⟩ = _ := (H8.out.2.1 _ _ _ HB.out.2.1 (by decide) (by decide)).c
    have s1 : (w8.setCell ⟨x.p, 0, none⟩ (.slice A8 n8 c8)).drew.cell? ⟨tb, 0, none⟩ = _ := (H8.out.2.1 _ _ _ HB.out.2.2 (by decide) (by decide)).c
    have s2 : (w8.setCell ⟨x.p, 0, none⟩ (.slice A8 n8 c8)).drew.cell? ⟨nb, 1, none⟩ = _ := H8.out.2.2.1.c1
    have s3 := H8.out.2.2.1.fr 1
    clear r0 r1 r2 k0 k1 k2 i0 hown
    generalize hW9 : w8.setCell ⟨x.p, 0, none⟩ (.slice A8 n8 c8) = W9 at *
    have HW9 := Lib.hid hW9
    clear hW9
    go_wp2_with fail
    go_region
    first | go_end0 | refine bodyPost_ret (results_none rfl _ _ _) rfl ?_
    have h8 := H8.out
    refine ⟨rfl, .slice A8 n8 c8, h8.2.2.2.1.draw, (HQ.out.trans h8.2.2.2.2 fun k _ e => e).drew, W8.out⟩
end

end Go.Proofs.Ytngjmeohleoglaa
